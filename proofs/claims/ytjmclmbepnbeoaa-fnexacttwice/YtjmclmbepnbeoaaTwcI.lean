/- The contracts of impl.reckoningOnce and its closures (written by wip/mktwi.py). -/
import Derived.Test.YtjmclmbepnbeoaaDelK
import Derived.Test.YtjmclmbepnbeoaaBwdI
import Derived.Test.YtjmclmbepnbeoaaChAll
import Derived.Test.YtjmclmbepnbeoaaPut5
namespace Go.Proofs.Ytjmclmbepnbeoaa
open Go.ChangeShapes Go.WideShapes Go.ChangeAt Go.RowKit
/-- What a change that begins at heap size D may write: its own lists of steps and their boxes. -/
structure KpT (D : Nat) (W W' : World) : Prop where
  os : W'.os = W.os
  tape : W'.tape = W.tape
  output : W'.output = W.output
  size : W.heap.size ≤ W'.heap.size
  block : ∀ k, k < W.heap.size → (k < D ∨ ∀ c, W.heap[k]? ≠ some (.cells c 48 (0, 0)) ∧ W.heap[k]? ≠ some (.cells c 42 (0, 0))) → W'.heap[k]? = W.heap[k]?
section
variable {D m : Nat} {W W1 W2 : World}
theorem KpT.refl (D : Nat) (W : World) : KpT D W W := ⟨rfl, rfl, rfl, Nat.le_refl _, fun _ _ _ => rfl⟩
theorem KpT.stays (h : KpT D W W1) (b : Below W1.heap.size W1 W2) : KpT D W W2 := ⟨b.os.trans h.os, b.tape.trans h.tape, b.output.trans h.output, Nat.le_trans h.size b.size, fun k hk hc => (b.block k (Nat.lt_of_lt_of_le hk h.size)).trans (h.block k hk hc)⟩
theorem KpT.but (h : KpT D W W1) (b : But m W1 W2) (hm : W.heap.size ≤ m ∨ (D ≤ m ∧ ∃ c, W.heap[m]? = some (.cells c 48 (0, 0)) ∨ W.heap[m]? = some (.cells c 42 (0, 0)))) : KpT D W W2 := ⟨b.os.trans h.os, b.tape.trans h.tape, b.output.trans h.output, Nat.le_trans h.size b.size, fun k hk hc => (b.block k (Nat.lt_of_lt_of_le hk h.size) (fun e => by
  subst e
  rcases hm with hm | ⟨h1, c, h2 | h2⟩
  · omega
  · rcases hc with hc | hc
    · omega
    · exact (hc c).1 h2
  · rcases hc with hc | hc
    · omega
    · exact (hc c).2 h2)).trans (h.block k hk hc)⟩
theorem grown_but {g : Nat} (h : W1.grownBy W2 (some g)) : But g W1 W2 := ⟨h.os, h.tape, h.output, h.size, fun k hk hne => h.block k hk (fun e => hne (by injection e))⟩
theorem KpT.below (h : KpT D W W1) {B : Nat} (hB : B ≤ D) (hw : D ≤ W.heap.size) : Below B W W1 := ⟨h.os, h.tape, h.output, h.size, fun k hk => h.block k (by omega) (Or.inl (by omega))⟩
end
/-- What the change has at hand: those that still stand, in a list of its own. -/
structure TwAt (D pp j : Nat) (L : List Ins) (W : World) : Prop where
  bx : ∃ g cap, W.heap[pp]? = some (.cells #[.slice (some ⟨g, 0, none⟩) L.length cap] 42 (0, 0)) ∧ OwnE InE W D (.slice (some ⟨g, 0, none⟩) L.length cap) L
  lo : D ≤ pp
  few : L.length ≤ j
  ok : ∀ y ∈ L, 0 ≤ y.a ∧ 0 ≤ y.b ∧ 0 ≤ y.d
theorem TwAt.stays {D pp j : Nat} {L : List Ins} {W W' : World} (h : TwAt D pp j L W) (b : Below W.heap.size W W') : TwAt D pp j L W' :=
  let ⟨g, cap, h1, h2⟩ := h.bx
  ⟨⟨g, cap, (b.block _ (hltP h1)).trans h1, h2.stays b⟩, h.lo, h.few, h.ok⟩
theorem TwAt.other {D pp j m : Nat} {L : List Ins} {W W' : World} (h : TwAt D pp j L W) (b : But m W W') (hm : m < D) : TwAt D pp j L W' :=
  let ⟨g, cap, h1, h2⟩ := h.bx
  have hl := h.lo
  have hg := (h2.low g rfl).1
  ⟨⟨g, cap, keepQ b h1 (by omega), h2.butG b (by simp only [Value.ownBlock]; intro e; injection e with e; omega)⟩, h.lo, h.few, h.ok⟩
theorem kept_eq {L : List Ins} {x : Ins} (h : ∀ y ∈ L, 0 ≤ y.a ∧ 0 ≤ y.b ∧ 0 ≤ y.d) : kpN L (makesP x) L.length = keptX L x := by
  unfold kpN keptX
  rw [List.take_length]
  refine List.filter_congr (fun y hy => ?_)
  by_cases c : StandX x y
  · simp [c, (stand_nm (h y hy)).1 c]
  · have : NmP y (makesP x) := Classical.byContradiction (fun hn => c ((stand_nm (h y hy)).2 hn))
    simp [c, this]
theorem typ_neI {W : World} {b g : Nat} {c c' : Array Value} (h : W.heap[b]? = some (.cells c 42 (0, 0))) (h' : W.heap[g]? = some (.cells c' 48 (0, 0))) : b ≠ g := fun e => by
  subst e
  rw [h] at h'
  injection h' with h'
  injection h' with _ h2
  exact absurd h2 (by decide)
theorem own_cur {W : World} {B g n cap : Nat} {L : List Ins} (h : OwnE InE W B (.slice (some ⟨g, 0, none⟩) n cap) L) : ∃ c, W.heap[g]? = some (.cells c 48 (0, 0)) := by
  obtain ⟨g', cap', cur, hv, _, hh, _⟩ := h.parts InOk
  injection hv with e1
  injection e1 with e1
  injection e1 with e1
  subst e1
  exact ⟨cur, hh⟩
set_option maxRecDepth 100000 in
set_option maxHeartbeats 16000000 in
theorem stepW_any (x : Ins) (L : List Ins) (W : World) (D pp j : Nat) (h : TwAt D pp j L W) (hx : WfX x) (hs : x.op = 2 → 0 ≤ x.a ∧ 0 ≤ x.b ∧ 0 ≤ x.d) (hn : j < 1000) (hD : D ≤ W.heap.size) :
    Calls Try.prog 89 #[.agg (insV x), .pointer (some ⟨pp, 0, none⟩)] W fun e w' => e = .returned (.agg (insV (twX L x))) ∧ TwAt D pp (j + 1) (twK L x) w' ∧ KpT D W w' := by
  obtain ⟨⟨g, cap, hpp, how⟩, hlo, hfew, hok⟩ := h
  have hgw := how.low g rfl
  have hppw := hltP hpp
  obtain ⟨cg, hcg⟩ := own_cur how
  have hpg := typ_neI hpp hcg
  have ON : Hid (∀ W', Below W.heap.size W W' → Calls Try.prog 90 #[.agg (insV x), .slice (some ⟨g, 0, none⟩) L.length cap] W' fun e w' => e = .returned (.agg (insV (twX L x))) ∧ Below W'.heap.size W' w') := fun W' hW' => once_any L x W' D g cap (how.stays hW') (by omega)
  have DF : Hid (∀ W' bx, Below W.heap.size W W' → W'.heap[bx]? = some (.cells (insV x) 48 (0, 0)) → bx ≠ g → Calls Try.prog 91 #[.slice (some ⟨g, 0, none⟩) L.length cap, .func (.func 92) #[] #[.pointer (some ⟨bx, 0, none⟩)]] W' fun e w' => ∃ n, e = .returned (.slice (some ⟨g, 0, none⟩) n cap) ∧ OwnE InE w' D (.slice (some ⟨g, 0, none⟩) n cap) (keptX L x) ∧ But g W' w') := fun W' bx hW' hb hne => by
    have := delF_any L x W' D g cap bx (how.stays hW') hx hb hne (by omega)
    rw [kept_eq hok] at this
    exact this
  have hkf : (keptX L x).length ≤ j := Nat.le_trans (List.length_filter_le _ _) hfew
  have hko : ∀ y ∈ keptX L x, 0 ≤ y.a ∧ 0 ≤ y.b ∧ 0 ≤ y.d := fun y hy => hok y (List.mem_filter.1 hy).1
  obtain ⟨Kx, hKx⟩ : ∃ Kx, keptX L x = Kx := ⟨_, rfl⟩
  have TK : Hid (twK L x = Kx ++ (if x.op = 2 ∧ x.d ≠ x.a ∧ x.d ≠ x.b then [x] else [])) := by show _ = _; rw [← hKx]; rfl
  obtain ⟨Y, hY⟩ : ∃ Y, twX L x = Y := ⟨_, rfl⟩
  rw [hY] at ON ⊢
  rw [hKx] at DF hkf hko
  obtain ⟨op, d, a, b0, c0, nn, t⟩ := x
  obtain ⟨yo, yd, ya, yb, yc, yn, yt⟩ := Y
  simp only [insV] at ON DF TK hs ⊢
  have HKO := hideP hko
  have HS := hideP hs
  have HPP := hideP hpp
  have HCG := hideP hcg
  have T2 := three_at W (.cells #[.int .i64 op, .int .i64 d, .int .i64 a, .int .i64 b0, .int .i64 c0, .int .i64 nn, .string t] 48) (.cells #[.int .i64 0, .int .i64 0, .int .i64 0, .int .i64 0, .int .i64 0, .int .i64 0, .string ⟨#[]⟩] 48) (.cells #[] 48)
  have al2 := hideP (below2 W (.cells #[.int .i64 op, .int .i64 d, .int .i64 a, .int .i64 b0, .int .i64 c0, .int .i64 nn, .string t] 48) (.cells #[.int .i64 0, .int .i64 0, .int .i64 0, .int .i64 0, .int .i64 0, .int .i64 0, .string ⟨#[]⟩] 48))
  have bX2 : Hid (((W.alloc (.cells #[.int .i64 op, .int .i64 d, .int .i64 a, .int .i64 b0, .int .i64 c0, .int .i64 nn, .string t] 48)).alloc (.cells #[.int .i64 0, .int .i64 0, .int .i64 0, .int .i64 0, .int .i64 0, .int .i64 0, .string ⟨#[]⟩] 48)).heap[W.heap.size]? = some (.cells #[.int .i64 op, .int .i64 d, .int .i64 a, .int .i64 b0, .int .i64 c0, .int .i64 nn, .string t] 48 (0, 0))) := heap_alloc2_old W _ _
  have bR2 : Hid (((W.alloc (.cells #[.int .i64 op, .int .i64 d, .int .i64 a, .int .i64 b0, .int .i64 c0, .int .i64 nn, .string t] 48)).alloc (.cells #[.int .i64 0, .int .i64 0, .int .i64 0, .int .i64 0, .int .i64 0, .int .i64 0, .string ⟨#[]⟩] 48)).heap[W.heap.size + 1]? = some (.cells #[.int .i64 0, .int .i64 0, .int .i64 0, .int .i64 0, .int .i64 0, .int .i64 0, .string ⟨#[]⟩] 48 (0, 0))) := by
    have := newI (W.alloc (.cells #[.int .i64 op, .int .i64 d, .int .i64 a, .int .i64 b0, .int .i64 c0, .int .i64 nn, .string t] 48)) #[.int .i64 0, .int .i64 0, .int .i64 0, .int .i64 0, .int .i64 0, .int .i64 0, .string ⟨#[]⟩]
    rw [World.size_alloc] at this
    exact this
  clear hKx hY hx hpp hcg how hs hok hko T2
  go_enter Try.func89, Try.ntmps89
  go_upto_region 1 with fail
  obtain ⟨w2, hw2⟩ : ∃ w2, (W.alloc (.cells #[.int .i64 op, .int .i64 d, .int .i64 a, .int .i64 b0, .int .i64 c0, .int .i64 nn, .string t] 48)).alloc (.cells #[.int .i64 0, .int .i64 0, .int .i64 0, .int .i64 0, .int .i64 0, .int .i64 0, .string ⟨#[]⟩] 48) = w2 := ⟨_, rfl⟩
  rw [hw2] at al2 bX2 bR2 ⊢
  clear hw2
  have P2 := hideP ((al2.out.block _ hppw).trans HPP.out)
  have fc := (cells_of bX2.out).1
  have x0 := fc 0
  have x1 := fc 1
  have x2 := fc 2
  have x3 := fc 3
  have x4 := fc 4
  have x5 := fc 5
  have x6 := fc 6
  simp at x0 x1 x2 x3 x4 x5 x6
  clear fc
  have fc := (cells_of P2.out).1
  have p0 := fc 0
  simp at p0
  clear fc
  go_wp2_with fail
  refine (ON.out _ al2.out).mono ?_
  rintro e3 w3 ⟨rfl, b3⟩
  have al3 := (Below.refl w3.heap.size w3).alloc (Nat.le_refl _) (.cells #[.int .i64 yo, .int .i64 yd, .int .i64 ya, .int .i64 yb, .int .i64 yc, .int .i64 yn, .string yt] 48)
  have B4 := hideP (below_trans (below_trans al2.out b3) al3)
  have b24 := below_trans b3 al3
  have X4 := hideP ((b24.block _ (hltP bX2.out)).trans bX2.out)
  have R4 := hideP ((b24.block _ (hltP bR2.out)).trans bR2.out)
  have P4 := hideP ((b24.block _ (hltP P2.out)).trans P2.out)
  have Y4 := hideP (newI w3 #[.int .i64 yo, .int .i64 yd, .int .i64 ya, .int .i64 yb, .int .i64 yc, .int .i64 yn, .string yt])
  have hw3 : Hid (W.heap.size + 1 < w3.heap.size) := by have := hltP bR2.out; have := b3.size; show _ < _; omega
  clear ON b3 al3 b24 al2 bX2 bR2 P2 x0 x1 x2 x3 x4 x5 x6 p0
  go_upto_region 2 with fail
  obtain ⟨w4, hw4⟩ : ∃ w4, w3.alloc (.cells #[.int .i64 yo, .int .i64 yd, .int .i64 ya, .int .i64 yb, .int .i64 yc, .int .i64 yn, .string yt] 48) = w4 := ⟨_, rfl⟩
  obtain ⟨b4, hb4⟩ : ∃ b4, w3.heap.size = b4 := ⟨_, rfl⟩
  rw [hw4] at B4 X4 R4 P4 Y4 ⊢
  rw [hb4] at Y4 hw3 ⊢
  clear hw4 hb4
  have fc := (cells_of P4.out).1
  have p0 := fc 0
  simp at p0
  clear fc
  have pf := (cells_of P4.out).2
  go_wp2_with fail
  refine (DF.out w4 W.heap.size B4.out X4.out (by omega)).mono ?_
  rintro e5 w5 ⟨n5, rfl, o5, b5⟩
  have hn5 : n5 = Kx.length := by
    obtain ⟨_, _, hv, _⟩ := id o5
    injection hv with _ e2
  subst hn5
  have hb4w := hw3.out
  have P5 := hideP (keepQ b5 P4.out hpg)
  have X5 := hideP (keepQ b5 X4.out (by omega))
  have R5 := hideP (keepQ b5 R4.out (by omega))
  have Y5 := hideP (keepQ b5 Y4.out (by omega))
  have K5 : Hid (KpT D W w5) := ((KpT.refl D W).stays B4.out).but b5 (Or.inr ⟨hgw.1, cg, Or.inl HCG.out⟩)
  have O5 := hideP o5
  clear DF B4 X4 R4 P4 Y4 b5 p0 pf o5
  have p5 := (cells_of P5.out).1 0
  have pf := (cells_of P5.out).2
  simp at p5
  have bw6 : But pp w5 (w5.setCell ⟨pp, 0, none⟩ (.slice (some ⟨g, 0, none⟩) Kx.length cap)) := (But.refl pp w5).set _ _
  have P6 : Hid ((w5.setCell ⟨pp, 0, none⟩ (.slice (some ⟨g, 0, none⟩) Kx.length cap)).heap[pp]? = some (.cells #[.slice (some ⟨g, 0, none⟩) Kx.length cap] 42 (0, 0))) := heap_setCell_same w5 pp 0 _ _ _ P5.out
  have K6 : Hid (KpT D W (w5.setCell ⟨pp, 0, none⟩ (.slice (some ⟨g, 0, none⟩) Kx.length cap))) := K5.out.but bw6 (Or.inr ⟨hlo, _, Or.inr HPP.out⟩)
  have X6 := hideP (keepQ bw6 X5.out (by omega))
  have R6 := hideP (keepQ bw6 R5.out (by omega))
  have Y6 := hideP (keepQ bw6 Y5.out (by omega))
  have O6 := hideP (O5.out.butG bw6 (by simp only [Value.ownBlock]; intro e; injection e with e; omega))
  clear bw6 P5 X5 R5 Y5 K5 O5
  go_upto_region 3 with fail
  obtain ⟨w6, hw6⟩ : ∃ w6, w5.setCell ⟨pp, 0, none⟩ (.slice (some ⟨g, 0, none⟩) Kx.length cap) = w6 := ⟨_, rfl⟩
  rw [hw6] at P6 K6 X6 R6 Y6 O6 ⊢
  clear hw6 p5 pf
  have fc := (cells_of X6.out).1
  have x0 := fc 0
  have x1 := fc 1
  have x2 := fc 2
  have x3 := fc 3
  have x4 := fc 4
  have x5 := fc 5
  have x6 := fc 6
  simp at x0 x1 x2 x3 x4 x5 x6
  clear fc
  obtain ⟨cb, hcb⟩ : ∃ cb, decide (op = 2 ∧ d ≠ a ∧ d ≠ b0) = cb := ⟨_, rfl⟩
  have HCB := hideP hcb
  go_cut [27] from 11 to 32 (fun s27 wx => s27 = .bool cb ∧ wx = w6)
  case first =>
    by_cases h2 : op = 2
    · subst h2
      by_cases h3 : d = a
      · subst h3
        obtain rfl : cb = false := by rw [← hcb]; simp
        go_wp2
        go_meet
        exact ⟨rfl, rfl⟩
      · have h3b : (d == a) = false := by simpa using h3
        by_cases h4 : d = b0
        · subst h4
          obtain rfl : cb = false := by rw [← hcb]; simp
          go_wp2
          go_meet
          exact ⟨rfl, rfl⟩
        · have h4b : (d == b0) = false := by simpa using h4
          obtain rfl : cb = true := by rw [← hcb]; simp [h3, h4]
          go_wp2
          go_meet
          exact ⟨by simp [h3, h4], rfl⟩
    · have h2b : (op == 2) = false := by simpa using h2
      obtain rfl : cb = false := by rw [← hcb]; simp [h2]
      go_wp2
      go_meet
      exact ⟨rfl, rfl⟩
  case rest =>
  obtain ⟨rfl, rfl⟩ := hcut
  clear hcb
  cases cb with
  | false =>
    have E2 : Hid (twK L (⟨op, d, a, b0, c0, nn, t⟩ : Ins) = Kx) := by show _ = _; rw [TK.out, if_neg (of_decide_eq_false HCB.out), List.append_nil]
    have Y8 := Y6
    have R8 := R6
    have K8 := K6
    have P8 : Hid (wc.heap[pp]? = some (.cells #[.slice (some ⟨g, 0, none⟩) (twK L (⟨op, d, a, b0, c0, nn, t⟩ : Ins)).length cap] 42 (0, 0))) := by rw [E2.out]; exact P6.out
    have O8 : Hid (OwnE InE wc D (.slice (some ⟨g, 0, none⟩) (twK L (⟨op, d, a, b0, c0, nn, t⟩ : Ins)).length cap) (twK L (⟨op, d, a, b0, c0, nn, t⟩ : Ins))) := by rw [E2.out]; exact O6.out
    have hne8 : Hid ((Value.slice (some ⟨g, 0, none⟩) (twK L (⟨op, d, a, b0, c0, nn, t⟩ : Ins)).length cap).ownBlock ≠ some (W.heap.size + 1)) := by show _ ≠ _; simp only [Value.ownBlock]; intro e; injection e with e; omega
    have F8 : Hid (Kx.length ≤ j + 1) := Nat.le_trans hkf (by omega)
    have G8 := HKO
    clear TK HCB x0 x1 x2 x3 x4 x5 x6 X6 Y6 R6 K6 P6 O6
    have fc := (cells_of Y8.out).1
    have y0 := fc 0
    have y1 := fc 1
    have y2 := fc 2
    have y3 := fc 3
    have y4 := fc 4
    have y5 := fc 5
    have y6 := fc 6
    simp at y0 y1 y2 y3 y4 y5 y6
    clear fc
    have fc := (cells_of R8.out).1
    have r0 := fc 0
    have r1 := fc 1
    have r2 := fc 2
    have r3 := fc 3
    have r4 := fc 4
    have r5 := fc 5
    have r6 := fc 6
    simp at r0 r1 r2 r3 r4 r5 r6
    clear fc
    have rf := (cells_of R8.out).2
    obtain ⟨z4, bu⟩ := put7n R8.out rfl (.int .i64 yo) (.int .i64 yd) (.int .i64 ya) (.int .i64 yb) (.int .i64 yc) (.int .i64 yn) (.string yt)
    have ZF := hideP z4
    have KF := hideP (K8.out.but bu (Or.inl (by omega)))
    have TF : Hid (TwAt D pp (j + 1) (twK L (⟨op, d, a, b0, c0, nn, t⟩ : Ins)) _) := ⟨⟨_, _, keepQ bu P8.out (by omega), O8.out.butG bu (by have := hne8.out; exact this)⟩, hlo, by rw [E2.out]; exact F8.out, by rw [E2.out]; exact G8.out⟩
    clear z4 bu
    go_wp2
    refine bodyPost_ret (results_cell_row rfl _ _ (W.heap.size + 1) 48 #[.int .i64 yo, .int .i64 yd, .int .i64 ya, .int .i64 yb, .int .i64 yc, .int .i64 yn, .string yt] (0, 0) _ rfl ZF.out Try.underlying48 rfl (by kernel_rfl)) rfl ?_
    exact ⟨rfl, TF.out, KF.out⟩
  | true =>
    have hcb := of_decide_eq_true HCB.out
    have E2 : Hid (twK L (⟨op, d, a, b0, c0, nn, t⟩ : Ins) = Kx ++ [(⟨op, d, a, b0, c0, nn, t⟩ : Ins)]) := by show _ = _; rw [TK.out, if_pos hcb]
    have hs2 := HS.out hcb.1
    clear hcb TK HCB
    have al := (Below.refl wc.heap.size wc).alloc (Nat.le_refl _) (.cells #[.int .i64 op, .int .i64 d, .int .i64 a, .int .i64 b0, .int .i64 c0, .int .i64 nn, .string t] 48)
    have OA := hideP (O6.out.stays al)
    have CQ : Hid (∀ r, r < InE.sz → (wc.alloc (.cells #[.int .i64 op, .int .i64 d, .int .i64 a, .int .i64 b0, .int .i64 c0, .int .i64 nn, .string t] 48)).cell? ⟨wc.heap.size, 0 + r, none⟩ = (InE.cs (⟨op, d, a, b0, c0, nn, t⟩ : Ins))[r]?) := fun r _ => by
      have := (cells_of (newI wc #[.int .i64 op, .int .i64 d, .int .i64 a, .int .i64 b0, .int .i64 c0, .int .i64 nn, .string t])).1 r
      rw [Nat.zero_add, this]; simp [InE]
    have hsz1 : Hid (D ≤ (wc.alloc (.cells #[.int .i64 op, .int .i64 d, .int .i64 a, .int .i64 b0, .int .i64 c0, .int .i64 nn, .string t] 48)).heap.size) := Nat.le_trans hD (Nat.le_trans K6.out.size al.size)
    have P7 := hideP ((al.block _ (hltP P6.out)).trans P6.out)
    have R7 := hideP ((al.block _ (hltP R6.out)).trans R6.out)
    have Y7' := hideP ((al.block _ (hltP Y6.out)).trans Y6.out)
    have K7 := hideP (K6.out.stays al)
    have hAz : Hid (W.heap.size ≤ (wc.alloc (.cells #[.int .i64 op, .int .i64 d, .int .i64 a, .int .i64 b0, .int .i64 c0, .int .i64 nn, .string t] 48)).heap.size) := K7.out.size
    clear al
    have fc := (cells_of P6.out).1
    have p0 := fc 0
    simp at p0
    clear fc
    go_upto_region 5 with (at_builtin; refine list_appE InOk _ rfl _ _ rfl D (.slice (some ⟨g, 0, none⟩) Kx.length cap) Kx (⟨op, d, a, b0, c0, nn, t⟩ : Ins) wc.heap.size 0 1 rfl rfl OA.out CQ.out (by omega) hsz1.out ?_; intro v9 w9 o9 grow9 loc9; replace grow9 : World.grownBy _ w9 (some g) := grow9; obtain ⟨g9, c9, rfl, _⟩ := id o9; have q9 := hideP ((grow9.block pp (hltP P7.out) (by simpa using hpg)).trans P7.out); have p9 := (cells_of q9.out).1 0; have pf9 := (cells_of q9.out).2; simp at p9)
    have bu9 := grown_but grow9
    have R9 := hideP (keepQ bu9 R7.out (by omega))
    have Y9 := hideP (keepQ bu9 Y7'.out (by omega))
    have K9 := hideP (K7.out.but bu9 (Or.inr ⟨hgw.1, cg, Or.inl HCG.out⟩))
    have g9lo := o9.low g9 rfl
    have hg9 : g9 ≠ W.heap.size + 1 ∧ g9 ≠ b4 ∧ g9 ≠ pp := by
      have h7 := hltP P7.out
      have h8 := hltP Y7'.out
      have hz8 := hltP R7.out
      rcases loc9 with e | e
      · simp only [Value.ownBlock] at e
        injection e with e
        omega
      · simp only [Value.ownBlock] at e
        injection e with e
        omega
    have bu10 : But pp w9 (w9.setCell ⟨pp, 0, none⟩ (.slice (some ⟨g9, 0, none⟩) (Kx.length + 1) c9)) := (But.refl pp w9).set _ _
    have P8 : Hid ((w9.setCell ⟨pp, 0, none⟩ (.slice (some ⟨g9, 0, none⟩) (Kx.length + 1) c9)).heap[pp]? = some (.cells #[.slice (some ⟨g9, 0, none⟩) (twK L (⟨op, d, a, b0, c0, nn, t⟩ : Ins)).length c9] 42 (0, 0))) := by
      rw [E2.out, List.length_append, List.length_singleton]
      exact heap_setCell_same w9 pp 0 _ _ _ q9.out
    have K8 := hideP (K9.out.but bu10 (Or.inr ⟨hlo, _, Or.inr HPP.out⟩))
    have R8 := hideP (keepQ bu10 R9.out (by omega))
    have Y8 := hideP (keepQ bu10 Y9.out (by omega))
    have O8 : Hid (OwnE InE (w9.setCell ⟨pp, 0, none⟩ (.slice (some ⟨g9, 0, none⟩) (Kx.length + 1) c9)) D (.slice (some ⟨g9, 0, none⟩) (twK L (⟨op, d, a, b0, c0, nn, t⟩ : Ins)).length c9) (twK L (⟨op, d, a, b0, c0, nn, t⟩ : Ins))) := by
      rw [E2.out]
      exact o9.butG bu10 (by simp only [Value.ownBlock]; intro e; injection e with e; omega)
    have hne8 : Hid ((Value.slice (some ⟨g9, 0, none⟩) (twK L (⟨op, d, a, b0, c0, nn, t⟩ : Ins)).length c9).ownBlock ≠ some (W.heap.size + 1)) := by show _ ≠ _; simp only [Value.ownBlock]; intro e; injection e with e; omega
    have F8 : Hid ((Kx ++ [(⟨op, d, a, b0, c0, nn, t⟩ : Ins)]).length ≤ j + 1) := by show _ ≤ _; rw [List.length_append, List.length_singleton]; omega
    have G8 : Hid (∀ y ∈ Kx ++ [(⟨op, d, a, b0, c0, nn, t⟩ : Ins)], 0 ≤ y.a ∧ 0 ≤ y.b ∧ 0 ≤ y.d) := fun y hy => by
      rcases List.mem_append.1 hy with hy | hy
      · exact HKO.out y hy
      · rw [List.mem_singleton.1 hy]
        exact hs2
    obtain ⟨w10, hw10⟩ : ∃ w10, w9.setCell ⟨pp, 0, none⟩ (.slice (some ⟨g9, 0, none⟩) (Kx.length + 1) c9) = w10 := ⟨_, rfl⟩
    rw [hw10] at P8 K8 R8 Y8 O8 ⊢
    clear hw10 bu9 bu10 o9 grow9 loc9 q9 p9 pf9 OA CQ x0 x1 x2 x3 x4 x5 x6 p0 R9 Y9 K9 R7 Y7' K7 P7 X6 Y6 R6 K6 P6 O6 HKO HS hsz1 hAz

    have fc := (cells_of Y8.out).1
    have y0 := fc 0
    have y1 := fc 1
    have y2 := fc 2
    have y3 := fc 3
    have y4 := fc 4
    have y5 := fc 5
    have y6 := fc 6
    simp at y0 y1 y2 y3 y4 y5 y6
    clear fc
    have fc := (cells_of R8.out).1
    have r0 := fc 0
    have r1 := fc 1
    have r2 := fc 2
    have r3 := fc 3
    have r4 := fc 4
    have r5 := fc 5
    have r6 := fc 6
    simp at r0 r1 r2 r3 r4 r5 r6
    clear fc
    have rf := (cells_of R8.out).2
    obtain ⟨z4, bu⟩ := put7n R8.out rfl (.int .i64 yo) (.int .i64 yd) (.int .i64 ya) (.int .i64 yb) (.int .i64 yc) (.int .i64 yn) (.string yt)
    have ZF := hideP z4
    have KF := hideP (K8.out.but bu (Or.inl (by omega)))
    have TF : Hid (TwAt D pp (j + 1) (twK L (⟨op, d, a, b0, c0, nn, t⟩ : Ins)) _) := ⟨⟨_, _, keepQ bu P8.out (by omega), O8.out.butG bu (by have := hne8.out; exact this)⟩, hlo, by rw [E2.out]; exact F8.out, by rw [E2.out]; exact G8.out⟩
    clear z4 bu
    go_wp2
    refine bodyPost_ret (results_cell_row rfl _ _ (W.heap.size + 1) 48 #[.int .i64 yo, .int .i64 yd, .int .i64 ya, .int .i64 yb, .int .i64 yc, .int .i64 yn, .string yt] (0, 0) _ rfl ZF.out Try.underlying48 rfl (by kernel_rfl)) rfl ?_
    exact ⟨rfl, TF.out, KF.out⟩
end Go.Proofs.Ytjmclmbepnbeoaa
