/- The contracts of the laws' marks on statements and programs. -/
import Derived.Test.YtdkdimklacblaahMarkE
import Derived.Test.YtdkdimklacblaahEqT
namespace Go.Proofs.Ytdkdimklacblaah
open Go.ChangeShapes Go.WideShapes Go.ChangeAt Go.RowKit
/-- How many marks a list of statements takes. -/
def mSts (l : List St) : Nat := 3 * (stsFlat l).length + 4 * (allOf (stsFlat l)).length
def mSt (e : St) : Nat := 3 * e.flat.length + 4 * (allOf e.flat).length
theorem mSts_append (l m : List St) : mSts (l ++ m) = mSts l + mSts m := by unfold mSts; rw [stsFlat_append, allOf_append, List.length_append, List.length_append]; omega
theorem mSts_take (l : List St) (j : Nat) (h : j < l.length) : mSts (l.take (j + 1)) = mSts (l.take j) + mSt l[j] := by
  unfold mSts mSt
  rw [stsFlat_take l j h, allOf_append, List.length_append, List.length_append]; omega
theorem mSts_le (l : List St) (j : Nat) : mSts (l.take j) ≤ mSts l := by
  conv => rhs; rw [← List.take_append_drop j l, mSts_append]
  omega
theorem mSt_mk (k n b : Int) (exps : List Ex) (xs ys : List St) : mSt (.mk k n b exps xs ys) = 3 + 4 * (exsFlat exps).length + mSts xs + mSts ys := by
  have e3 : (St.mk k n b exps xs ys).flat = [St.mk k n b exps xs ys] ++ (stsFlat xs ++ stsFlat ys) := rfl
  unfold mSt mSts
  rw [e3, allOf_append, allOf_append]
  simp [allOf, St.exps]
  omega
theorem exs_le (l : List Ex) : l.length ≤ (exsFlat l).length := by
  induction l with
  | nil => simp
  | cons x l ih =>
    obtain ⟨k1, n1, b1, t1, ks⟩ := x
    simp [exsFlat, Ex.flat]; omega
theorem sts_le (l : List St) : l.length ≤ mSts l := by
  induction l with
  | nil => simp
  | cons x l ih =>
    have h := mSts_append [x] l
    obtain ⟨k1, n1, b1, es, xs, ys⟩ := x
    have h2 := mSts_take [St.mk k1 n1 b1 es xs ys] 0 (by simp)
    simp only [List.getElem_cons_zero, mSt_mk] at h2
    have h3 : mSts ([St.mk k1 n1 b1 es xs ys].take 0) = 0 := rfl
    have h4 : [St.mk k1 n1 b1 es xs ys].take (0 + 1) = [St.mk k1 n1 b1 es xs ys] := rfl
    rw [h4, h3] at h2
    rw [show St.mk k1 n1 b1 es xs ys :: l = [St.mk k1 n1 b1 es xs ys] ++ l from rfl, h, h2]
    simp; omega
def MkT (es : List St) : Prop := ∀ (w : World) (B T k : Nat) (a : Option Addr) (cap : Nat), rowT w B T a es → 0 < k → k + mSts es ≤ 100000000 →
  Calls Try.prog 46 #[.slice a es.length cap, .int .i64 k] w fun en w' => en = .returned (.int .i64 ((k + mSts es : Nat) : Int)) ∧ Over B T w w'
def MkIn : St → Prop
  | .mk _ _ _ _ xs ys => MkT xs ∧ MkT ys
set_option maxHeartbeats 8000000 in
theorem markStmtS_of (es : List St) (ih : ∀ e ∈ es, MkIn e) : MkT es := by
  intro w B T k a cap h hk0 hk
  have IH := hideP ih
  clear ih
  have hn := sts_le es
  go_enter Try.func46, Try.ntmps46
  go_wp2
  go_loopg [1, 5] es.length (fun gk q i wr => ∃ j m : Nat, gk + j = es.length ∧ i = .int .i64 j ∧ q = .int .i64 m ∧ Hid (m = k + mSts (es.take j)) ∧ Hid (rowT wr B T a es) ∧ Hid (Over B T w wr))
  case atStart => exact ⟨0, k, by simp, rfl, rfl, show _ = _ by simp [mSts, stsFlat, allOf], h, Over.refl _ _ _⟩
  case round =>
    obtain ⟨j, m, hgk, rfl, rfl, hmk, hr, ho⟩ := hrel
    by_cases hlt : j < es.length
    · rcases hr.out with h0 | ⟨b, o, rfl, hroom⟩
      · omega
      · have hra := stsRoom_at hroom j hlt
        have hft := mSts_take es j hlt
        have hle := mSts_le es (j + 1)
        have hih := IH.out es[j] (List.getElem_mem hlt)
        obtain ⟨e, he⟩ : ∃ e, es[j] = e := ⟨_, rfl⟩
        rw [he] at hra hft hih
        obtain ⟨k0, n0, b0, exps, xs, ys⟩ := e
        obtain ⟨hihx, hihy⟩ := hih
        rw [mSt_mk] at hft
        obtain ⟨hB, hT, s0, s1, s2, ⟨ua, ca, s3, hkk⟩, ⟨ua', ca', s4, hkx⟩, ua2, ca2, s5, hky⟩ := hra
        have hm := hmk.out
        have hel := exs_le exps
        obtain ⟨E, hE⟩ : ∃ E, 4 * (exsFlat exps).length = E := ⟨_, rfl⟩
        obtain ⟨X, hX⟩ : ∃ X, mSts xs = X := ⟨_, rfl⟩
        obtain ⟨Y, hY⟩ : ∃ Y, mSts ys = Y := ⟨_, rfl⟩
        rw [hE, hX, hY] at hft
        have hm0 : 0 < m := by omega
        have hm1 : m + 3 + E + X + Y ≤ 100000000 := by omega
        have HM2 : Hid (m + 3 + E + X + Y = k + mSts (es.take (j + 1))) := by show _ = _; omega
        obtain ⟨u0, c0, f0, _⟩ := s0.cell
        obtain ⟨u1, c1, f1, _⟩ := s1.cell
        obtain ⟨u2, c2, f2, _⟩ := s2.cell
        have o1 := s0.set (v := .int .i64 m) hB hT (fun u hu => Like.ints hu _)
        have s1' := s1.over (fun _ _ => isI.like) o1
        have o2 := s1'.set (v := .int .i64 ((m : Int) + 1)) hB hT (fun u hu => Like.ints hu _)
        have s2' := (s2.over (fun _ _ => isI.like) o1).over (fun _ _ => isI.like) o2
        have o3 := s2'.set (v := .int .i64 ((m : Int) + 1 + 1)) hB hT (fun u hu => Like.ints hu _)
        have O3 := hideP ((o1.trans o2).trans o3)
        have s3' := s3.over sl_like O3.out
        obtain ⟨u3, c3, f3, rfl⟩ := s3'.cell
        have K3 := hideP ((show rowE wr B T ua exps from hkk).over O3.out)
        have S4 := hideP s4
        have S5 := hideP s5
        have HIX := hideP hihx
        have HIY := hideP hihy
        have KX := hideP (show rowT wr B T ua' xs from hkx)
        have KY := hideP (show rowT wr B T ua2 ys from hky)
        have HE := hideP hE
        have HX := hideP hX
        have HY := hideP hY
        have hel' : exps.length ≤ 100000000 := by omega
        clear hft hle hihx hihy he o1 o2 o3 s1' s2' s0 s1 s2 s3 s4 s5 s3' hkk hkx hky hroom hm hE hX hY hel
        go_upto_region 10 with fail
        obtain ⟨w3, hw3⟩ : ∃ w3, ((wr.setCell ⟨b, o + j * 6, none⟩ (.int .i64 m)).setCell ⟨b, o + j * 6 + 1, none⟩ (.int .i64 ((m : Int) + 1))).setCell ⟨b, o + j * 6 + 2, none⟩ (.int .i64 ((m : Int) + 1 + 1)) = w3 := ⟨_, rfl⟩
        rw [hw3] at c3 f3 K3 O3 ⊢
        clear hw3 c0 c1 c2 f0 f1 f2
        go_wp2_with fail
        have ekj : ((m : Int) + 1 + 1 + 1) = ((m + 3 : Nat) : Int) := by omega
        rw [ekj]
        clear ekj
        refine (markExpS_any exps w3 B T (m + 3) ua ca K3.out (by omega) (by rw [HE.out]; omega) hel').mono ?_
        rintro e4 w4 ⟨rfl, o4⟩
        rw [HE.out]
        have O4 := hideP (O3.out.trans o4)
        have s4 := S4.out.over sl_like O4.out
        obtain ⟨u4, c4, f4, rfl⟩ := s4.cell
        have K4 := hideP (KX.out.over O4.out)
        clear o4 s4 c3 f3
        go_wp2_with fail
        refine (HIX.out w4 B T (m + 3 + E) ua' ca' K4.out (by omega) (by rw [HX.out]; omega)).mono ?_
        rintro e5 w5 ⟨rfl, o5⟩
        rw [HX.out]
        have O5 := hideP (O4.out.trans o5)
        have s5 := S5.out.over sl_like O5.out
        obtain ⟨u5, c5, f5, rfl⟩ := s5.cell
        have K5 := hideP (KY.out.over O5.out)
        clear o5 s5 c4 f4
        go_wp2_with fail
        refine (HIY.out w5 B T (m + 3 + E + X) ua2 ca2 K5.out (by omega) (by rw [HY.out]; omega)).mono ?_
        rintro e6 w6 ⟨rfl, o6⟩
        rw [HY.out]
        have O6 := hideP (O5.out.trans o6)
        obtain ⟨M, hM⟩ : ∃ M, m + 3 + E + X + Y = M := ⟨_, rfl⟩
        rw [hM] at HM2 ⊢
        clear o6 c5 f5 hM
        go_wp2
        go_roundg (es.length - (j + 1))
        case rel => exact ⟨j + 1, M, by omega, by go_num, rfl, HM2.out, hr.out.over O6.out, ho.out.trans O6.out⟩
        case measure => omega
    · have hjn : j = es.length := by omega
      subst hjn
      go_wp2
      go_ret
      exact ⟨ret_int (by rw [hmk.out, List.take_length]), ho.out⟩
theorem markStmtS_in (e : St) : MkIn e := by
  induction e using St.ind with
  | h k n b exps xs ys ihx ihy => exact ⟨markStmtS_of xs ihx, markStmtS_of ys ihy⟩
theorem markStmtS_any (es : List St) : MkT es := markStmtS_of es fun e _ => markStmtS_in e
theorem Over.ofAlloc {B T : Nat} {w w' : World} {o : Obj} (h : Over B T (w.alloc o) w') : Over B T w w' := ((Over.refl B T w).on ((Below.refl _ _).alloc (Nat.le_refl _) o)).trans h
set_option maxHeartbeats 1000000 in
theorem markIntE_room (n : Nat) (w : World) (B T k : Nat) (a : Option Addr) (cap : Nat) (h : IntRoom w B T a n) (hk : k + n ≤ 100000000) :
    Calls Try.prog 20 #[.slice a n cap, .int .i64 k] w fun en w' => en = .returned (.int .i64 ((k + n : Nat) : Int)) ∧ Over B T w w' := by
  go_enter Try.func20, Try.ntmps20
  go_wp2
  go_loopw [1, 5] (fun q i wr => ∃ j : Nat, j ≤ n ∧ i = .int .i64 j ∧ q = .int .i64 ((k + j : Nat) : Int) ∧ Hid (IntRoom wr B T a n) ∧ Hid (Over B T w wr)) (fun _ i _ => n - (intOf i).toNat)
  case atStart => exact ⟨0, Nat.zero_le _, rfl, rfl, h, Over.refl _ _ _⟩
  case round =>
    obtain ⟨j, hj, rfl, rfl, hr, ho⟩ := hrel
    by_cases hlt : j < n
    · have hrr := hr.out
      rcases hrr with h0 | ⟨b, o, c, ty, rfl, hB, hT, hh, hx⟩
      · omega
      obtain ⟨u0, hu0, k0⟩ := hx j 0 hlt (by omega)
      have hu1 : c[o + j]? = some u0 := by simpa using hu0
      have c0 : wr.cell? ⟨b, o + j, none⟩ = some u0 := by rw [(cells_of hh).1]; exact hu1
      have f0 := (cells_of hh).2 (o + j)
      have O1 := hideP ((Over.refl B T wr).set hB hT hh hu1 (Like.ints k0 ((k + j : Nat) : Int)))
      clear hh hx k0 hu0 hu1 h
      go_wp2
      go_roundw
      case rel => exact ⟨j + 1, by omega, by go_num, by go_num, hr.out.over O1.out, ho.out.trans O1.out⟩
      case measure => simp [intOf]; omega
    · have hjn : j = n := by omega
      subst hjn
      go_wp2
      go_ret
      exact ⟨rfl, ho.out⟩
/-- The rooms of a program and of an expression. -/
def PrRoom (w : World) (B T : Nat) (v : Array Value) (p : Pr) : Prop := ∃ (a : Option Addr) (cap : Nat) (ab : Option Addr) (cb : Nat), v = #[.slice a p.sizes.length cap, .int .i64 p.params, .int .i64 p.vars, .slice ab p.body.length cb] ∧ IntRoom w B T a p.sizes.length ∧ rowT w B T ab p.body
theorem PrRoom.of {w : World} {B : Nat} {v : Array Value} {p : Pr} (h : PrIs w B v p) (hB : 0 < B) : PrRoom w B w.heap.size v p := by
  obtain ⟨a, cap, ab, cb, e, h1, h2⟩ := h
  exact ⟨a, cap, ab, cb, e, IntRoom.of h1 hB, rowT_of hB h2⟩
theorem PrRoom.stays {w w' : World} {B T : Nat} {v : Array Value} {p : Pr} (h : PrRoom w B T v p) (bel : Below w.heap.size w w') : PrRoom w' B T v p := by
  obtain ⟨a, cap, ab, cb, e, h1, h2⟩ := h
  exact ⟨a, cap, ab, cb, e, h1.stays bel, h2.over (Over.ofBelow bel)⟩
def XRoom (w : World) (B T : Nat) (v : Array Value) (e : Ex) : Prop := ∃ (k n b : Int) (t : ByteArray) (a : Option Addr) (cap : Nat), v = #[.int .i64 k, .int .i64 n, .int .i64 b, .string t, .slice a e.kidsOf.length cap] ∧ rowE w B T a e.kidsOf
theorem XRoom.of {w : World} {B : Nat} {v : Array Value} {e : Ex} (h : ExIs w B v e) (hB : 0 < B) : XRoom w B w.heap.size v e := by
  obtain ⟨k, n, b, t, kids⟩ := e
  obtain ⟨a, cap, rfl, _, hk⟩ := h.out
  exact ⟨k, n, b, t, a, cap, rfl, rowE_of hB hk⟩
theorem XRoom.stays {w w' : World} {B T : Nat} {v : Array Value} {e : Ex} (h : XRoom w B T v e) (bel : Below w.heap.size w w') : XRoom w' B T v e := by
  obtain ⟨k, n, b, t, a, cap, e, h1⟩ := h
  exact ⟨k, n, b, t, a, cap, e, h1.over (Over.ofBelow bel)⟩
set_option maxHeartbeats 1000000 in
theorem markExp_room (e : Ex) (w : World) (B T : Nat) (v : Array Value) (h : XRoom w B T v e) (hs : e.sz ≤ 1048576) :
    Calls Try.prog 19 #[.agg v, .int .i64 1] w fun en w' => ∃ k : Nat, en = .returned (.int .i64 k) ∧ Over B T w w' := by
  obtain ⟨k, n, b, t, a, cap, rfl, h1⟩ := h
  have hfl := flat_le_ex e
  have hfk : e.flat.length = 1 + (exsFlat e.kidsOf).length := by obtain ⟨k, n, b, t, kids⟩ := e; simp [Ex.flat, Ex.kidsOf]; omega
  have hlk := Nat.le_trans (show e.kidsOf.length ≤ (exsFlat e.kidsOf).length by
    induction e.kidsOf with
    | nil => simp
    | cons x l ih =>
      obtain ⟨k1, n1, b1, t1, ks⟩ := x
      simp [exsFlat, Ex.flat]; omega) (show _ ≤ 1048577 by omega)
  have M := hideP (fun o => markExpS_any e.kidsOf (w.alloc o) B T 1 a cap (h1.over (Over.ofBelow ((Below.refl _ _).alloc (Nat.le_refl _) o))) (by omega) (by omega) (by omega))
  clear h1 hfl hfk
  go_enter Try.func19, Try.ntmps19
  go_wp2_with fail
  refine (M.out _).mono ?_
  rintro e1 w1 ⟨rfl, o1⟩
  have O1 := hideP o1
  clear o1
  go_wp2
  go_ret
  exact ⟨_, rfl, O1.out.ofAlloc⟩
set_option maxHeartbeats 1000000 in
theorem markProgram_room (p : Pr) (w : World) (B T : Nat) (v : Array Value) (h : PrRoom w B T v p) (hT : T ≤ w.heap.size) (hs : p.sz ≤ 1048576) :
    Calls Try.prog 24 #[.agg v, .int .i64 1] w fun en w' => ∃ k : Nat, en = .returned (.int .i64 k) ∧ Over B T w w' := by
  obtain ⟨a, cap, ab, cb, rfl, h1, h2⟩ := h
  have hf := flat_le_sts p.body fun e _ => flat_le_st e
  have hl := all_le_sts p.body fun e _ => all_le_st e
  have hs' : p.sizes.length + stsSz p.body ≤ 1048576 := by unfold Pr.sz at hs; omega
  have hm : mSts p.body ≤ 8000000 := by unfold mSts; omega
  have H1 := hideP h1
  have H2 := hideP h2
  clear h1 h2 hf hl
  go_enter Try.func24, Try.ntmps24
  go_wp2_with fail
  refine (markIntE_room p.sizes.length _ B T 1 a cap (H1.out.stays ((Below.refl _ _).alloc (Nat.le_refl _) _)) (by omega)).mono ?_
  rintro e1 w1 ⟨rfl, o1⟩
  have hv := (o1.out w.heap.size (by simp) (Or.inr hT)).trans (show (w.alloc _).heap[w.heap.size]? = _ from Array.getElem?_push_size)
  have c4 := (cells_of hv).1 3
  simp at c4
  have hb := (H2.out.over (Over.ofBelow ((Below.refl w.heap.size w).alloc (Nat.le_refl _) (.cells #[.slice a p.sizes.length cap, .int .i64 p.params, .int .i64 p.vars, .slice ab p.body.length cb] 30)))).over o1
  have O1 := hideP o1
  clear o1 hv
  go_wp2_with fail
  refine (markStmtS_any p.body _ B T (1 + p.sizes.length) ab cb hb (by omega) (by omega)).mono ?_
  rintro e2 w2 ⟨rfl, o2⟩
  clear c4
  go_wp2
  go_ret
  exact ⟨_, rfl, (O1.out.trans o2).ofAlloc⟩
theorem PrKeeps.stays {w w' : World} {B : Nat} {v : Array Value} {p : Pr} (h : PrIs w B v p) (bel : Below w.heap.size w w') : PrIs w' B v p := PrIs.stays h bel
theorem ExKeeps.stays {w w' : World} {B : Nat} {v : Array Value} {e : Ex} (h : ExIs w B v e) (bel : Below w.heap.size w w') : ExIs w' B v e := ExIs.stays h bel
theorem eqProgram_same (p : Pr) (w : World) (B1 B2 : Nat) (v1 v2 : Array Value) (h1 : PrIs w B1 v1 p) (h2 : PrIs w B2 v2 p) :
    Calls Try.prog 12 #[.agg v1, .agg v2] w fun en w' => en = .returned (.bool true) ∧ Below w.heap.size w w' := eqProgram_any p w B1 B2 v1 v2 h1 h2
theorem eqExp_same (e : Ex) (w : World) (B1 B2 : Nat) (v1 v2 : Array Value) (h1 : ExIs w B1 v1 e) (h2 : ExIs w B2 v2 e) :
    Calls Try.prog 18 #[.agg v1, .agg v2] w fun en w' => en = .returned (.bool true) ∧ Below w.heap.size w w' := eqExp_any e w B1 B2 v1 v2 h1 h2
end Go.Proofs.Ytdkdimklacblaah
