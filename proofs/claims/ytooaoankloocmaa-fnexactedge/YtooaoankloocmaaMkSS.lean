/- The laws' eqIntSS, markIntSS and heldIntSS. -/
import Derived.Test.YtooaoankloocmaaMkN
import Derived.Test.YtooaoankloocmaaSetAll
namespace Go.Proofs.Ytooaoankloocmaa
open Go.ChangeShapes Go.WideShapes Go.ChangeAt Go.RowKit
/-- Block ga: n lists of numbers, each in a block of its own (or nil), from B on. -/
structure SsP (W : World) (B n ga : Nat) (av : Nat → Value) (f : Nat → List Int) : Prop where
  lo : B ≤ ga
  row : ∃ cur, W.heap[ga]? = some (.cells cur 22 (0, 0)) ∧ ∀ t, t < n → cur[t]? = some (av t)
  own : ∀ t, t < n → NumN W B (av t) (f t)
  dis : ∀ t u, t < n → u < n → t ≠ u → ∀ g, (av t).ownBlock = some g → (av u).ownBlock ≠ some g
def SsAt (W : World) (B : Nat) (v : Value) (n : Nat) (f : Nat → List Int) : Prop := ∃ ga cap av, v = .slice (some ⟨ga, 0, none⟩) n cap ∧ SsP W B n ga av f
/-- The blocks of the list and of its lists. -/
def SsBl (n ga : Nat) (av : Nat → Value) (k : Nat) : Prop := k = ga ∨ ∃ t, t < n ∧ (av t).ownBlock = some k
section
variable {W W' : World} {B B' n ga : Nat} {av : Nat → Value} {f f' : Nat → List Int}
theorem SsP.keep (h : SsP W B n ga av f) (hk : ∀ k, k < W.heap.size → SsBl n ga av k → W'.heap[k]? = W.heap[k]?) : SsP W' B n ga av f := by
  obtain ⟨cur, h1, h2⟩ := h.row
  exact ⟨h.lo, ⟨cur, (hk ga (hltP h1) (Or.inl rfl)).trans h1, h2⟩, fun t ht => (h.own t ht).keep (fun g hg hlt => hk g hlt (Or.inr ⟨t, ht, hg⟩)), h.dis⟩
theorem SsP.stays (h : SsP W B n ga av f) (b : Below W.heap.size W W') : SsP W' B n ga av f := h.keep (fun k hk _ => b.block k hk)
theorem SsP.mono (h : SsP W B n ga av f) (hB : B' ≤ B) : SsP W B' n ga av f := ⟨Nat.le_trans hB h.lo, h.row, fun t ht => (h.own t ht).mono hB, h.dis⟩
theorem SsP.at (h : SsP W B n ga av f) {t : Nat} (ht : t < n) : W.cell? ⟨ga, t, none⟩ = some (av t) := by
  obtain ⟨cur, h1, h2⟩ := h.row
  simp only [World.cell?, h1]; exact h2 t ht
theorem SsP.low (h : SsP W B n ga av f) {k : Nat} (hk : SsBl n ga av k) : B ≤ k ∧ k < W.heap.size := by
  rcases hk with rfl | ⟨t, ht, hg⟩
  · obtain ⟨cur, h1, _⟩ := h.row
    exact ⟨h.lo, hltP h1⟩
  · have := (h.own t ht).low k hg
    exact ⟨this.1, this.2.1⟩
theorem SsP.notga (h : SsP W B n ga av f) {t : Nat} (ht : t < n) : (av t).ownBlock ≠ some ga := fun e => by
  obtain ⟨_, _, c, hc⟩ := (h.own t ht).low ga e
  obtain ⟨cur, h1, _⟩ := h.row
  rw [h1] at hc
  injection hc with hc
  injection hc with _ e2
  exact absurd e2 (by decide)
theorem SsP.congr (h : SsP W B n ga av f) (e : ∀ t, t < n → f t = f' t) : SsP W B n ga av f' := ⟨h.lo, h.row, fun t ht => by rw [← e t ht]; exact h.own t ht, h.dis⟩
theorem SsP.of_ah (h : AhAt B n ga av f W) (hg : B ≤ ga) : SsP W B n ga av f := let ⟨cur, h1, _, h3⟩ := h.row; ⟨hg, ⟨cur, h1, h3⟩, h.own, h.dis⟩
end
set_option maxHeartbeats 4000000 in
set_option maxRecDepth 100000 in
theorem eqIntSS_same (n : Nat) (f : Nat → List Int) (w : World) (B1 B2 : Nat) (v1 v2 : Value) (h1 : SsAt w B1 v1 n f) (h2 : SsAt w B2 v2 n f) (hn : n ≤ 1000000) :
    Calls Try.prog 13 #[v1, v2] w fun en w' => en = .returned (.bool true) ∧ Below w.heap.size w w' := by
  obtain ⟨g1, c1, a1, rfl, k1⟩ := h1
  obtain ⟨g2, c2, a2, rfl, k2⟩ := h2
  have K1 := hideP k1
  have K2 := hideP k2
  clear k1 k2
  go_enter Try.func13, Try.ntmps13
  go_wp2
  go_loopw [5] (fun i wr => ∃ j : Nat, j ≤ n ∧ i = .int .i64 j ∧ Below w.heap.size w wr) (fun i _ => n - (intOf i).toNat)
  case atStart => exact ⟨0, Nat.zero_le _, rfl, Below.refl _ _⟩
  case round =>
    obtain ⟨j, hj, rfl, bel⟩ := hrel
    by_cases hlt : j < n
    · have q1 := K1.out.stays bel
      have q2 := K2.out.stays bel
      have m1 := q1.at hlt
      have m2 := q2.at hlt
      have IHj : Hid (∀ (W : World), Below wr.heap.size wr W → Calls Try.prog 20 #[a1 j, a2 j] W fun en w' => en = .returned (.bool true) ∧ Below W.heap.size W w') := fun W hW => eqIntS_num (f j) W B1 B2 _ _ ((q1.own j hlt).stays hW) ((q2.own j hlt).stays hW)
      have HB := hideP bel
      have hsz := bel.size
      obtain ⟨x1, hx1⟩ : ∃ x1, a1 j = x1 := ⟨_, rfl⟩
      obtain ⟨x2, hx2⟩ : ∃ x2, a2 j = x2 := ⟨_, rfl⟩
      rw [hx1] at m1
      rw [hx2] at m2
      rw [hx1, hx2] at IHj
      clear q1 q2 bel hx1 hx2
      go_wp2
      go_region_with (go_at_call 20; refine (IHj.out _ (by first | exact Below.refl _ _ | exact (Below.refl _ _).drew | exact (Below.refl _ _).drew.drew)).mono ?_; rintro e1 w1 ⟨rfl, bel1⟩)
      all_goals
        have hw1 : Below w.heap.size w w1 := by first | exact HB.out.trans (bel1.mono hsz) | exact HB.out.drew.trans (bel1.mono hsz) | exact HB.out.drew.drew.trans (bel1.mono hsz)
        clear bel1 m1 m2
        go_wp2
        go_roundw
        case rel => exact ⟨j + 1, by omega, by go_num, hw1⟩
        case measure => simp [intOf]; omega
    · go_wp2
      go_ret
      exact ⟨rfl, bel⟩
/-- How many numbers stand in the first t lists. -/
def offS (f : Nat → List Int) : Nat → Nat
  | 0 => 0
  | t + 1 => offS f t + (f t).length
theorem offS_le (f : Nat → List Int) : ∀ {t n : Nat}, t ≤ n → offS f t ≤ offS f n := fun {t n} h => by
  induction n with
  | zero => have : t = 0 := by omega
            subst this; exact Nat.le_refl _
  | succ n ih =>
    by_cases e : t = n + 1
    · subst e; exact Nat.le_refl _
    · have := ih (by omega)
      simp only [offS]; omega
/-- The first j lists bear marks from k on. -/
def mkS (f : Nat → List Int) (k j : Nat) (t : Nat) : List Int := if t < j then marksI (k + offS f t) (f t).length else f t
/-- Only the lists' own blocks are written. -/
structure SsT (n : Nat) (av : Nat → Value) (w w' : World) : Prop where
  os : w'.os = w.os
  tape : w'.tape = w.tape
  output : w'.output = w.output
  size : w.heap.size ≤ w'.heap.size
  block : ∀ k, k < w.heap.size → (∀ t, t < n → (av t).ownBlock ≠ some k) → w'.heap[k]? = w.heap[k]?
theorem SsT.refl (n : Nat) (av : Nat → Value) (w : World) : SsT n av w w := ⟨rfl, rfl, rfl, Nat.le_refl _, fun _ _ _ => rfl⟩
theorem SsT.on {n : Nat} {av : Nat → Value} {w w1 w2 : World} {t : Nat} (h : SsT n av w w1) (ht : t < n) (g : w1.grownBy w2 (av t).ownBlock) : SsT n av w w2 :=
  ⟨g.os.trans h.os, g.tape.trans h.tape, g.output.trans h.output, Nat.le_trans h.size g.size, fun k hk hn => (g.block k (Nat.lt_of_lt_of_le hk h.size) (fun e => hn t ht e.symm)).trans (h.block k hk hn)⟩
theorem SsT.below {n : Nat} {av : Nat → Value} {w w' : World} {B : Nat} (h : SsT n av w w') (hb : ∀ t, t < n → ∀ g, (av t).ownBlock = some g → B ≤ g) (hB : B ≤ w.heap.size) : Below B w w' :=
  ⟨h.os, h.tape, h.output, h.size, fun k hk => h.block k (by omega) (fun t ht e => by have := hb t ht k e; omega)⟩
set_option maxHeartbeats 4000000 in
set_option maxRecDepth 100000 in
theorem markIntSS_any (n : Nat) (f : Nat → List Int) (w : World) (B ga cap k : Nat) (av : Nat → Value) (h : SsP w B n ga av f) (hn : n ≤ 1000000) (hk : k ≤ 100000) (hs : offS f n ≤ 10000000) :
    Calls Try.prog 16 #[.slice (some ⟨ga, 0, none⟩) n cap, .int .i64 k] w fun en w' => en = .returned (.int .i64 ((k + offS f n : Nat) : Int)) ∧ SsP w' B n ga av (mkS f k n) ∧ SsT n av w w' := by
  have H0 := hideP h
  clear h
  go_enter Try.func16, Try.ntmps16
  go_wp2
  go_loopg [1, 5] n (fun gk q i wr => ∃ j : Nat, gk + j = n ∧ i = .int .i64 j ∧ q = .int .i64 ((k + offS f j : Nat) : Int) ∧ Hid (SsP wr B n ga av (mkS f k j)) ∧ Hid (SsT n av w wr))
  case atStart => exact ⟨0, by simp, rfl, rfl, H0.out.congr (fun t _ => (if_neg (Nat.not_lt_zero _)).symm), SsT.refl _ _ _⟩
  case round =>
    obtain ⟨j, hj, rfl, rfl, hP, hT⟩ := hrel
    by_cases hlt : j < n
    · have m1 := hP.out.at hlt
      have NJ := hP.out.own j hlt
      have e0 : mkS f k j j = f j := if_neg (Nat.lt_irrefl _)
      rw [e0] at NJ
      have hof := offS_le f (t := j + 1) (n := n) (by omega)
      have hof1 : offS f (j + 1) = offS f j + (f j).length := rfl
      have CM := hideP (markIntS_num (f j) wr B (k + offS f j) (av j) NJ (by omega) (by omega))
      have DN : Hid (∀ w', NumN w' B (av j) (marksI (k + offS f j) (f j).length) → wr.grownBy w' (av j).ownBlock → SsP w' B n ga av (mkS f k (j + 1)) ∧ SsT n av w w') := fun w' hN hg => by
        obtain ⟨cur, r1, r2⟩ := hP.out.row
        refine ⟨⟨hP.out.lo, ⟨cur, (hg.block ga (hltP r1) (fun e => hP.out.notga hlt e.symm)).trans r1, r2⟩, fun t ht => ?_, hP.out.dis⟩, hT.out.on hlt hg⟩
        by_cases e : t = j
        · subst e
          unfold mkS
          rw [if_pos (by omega)]
          exact hN
        · have e1 : mkS f k (j + 1) t = mkS f k j t := by
            unfold mkS
            by_cases e2 : t < j
            · rw [if_pos e2, if_pos (by omega)]
            · rw [if_neg e2, if_neg (by omega)]
          rw [e1]
          exact (hP.out.own t ht).keep (fun g hg2 hl2 => hg.block g hl2 (fun e3 => hP.out.dis t j ht hlt e g hg2 e3.symm))
      obtain ⟨AV, hAV⟩ : ∃ AV, av j = AV := ⟨_, rfl⟩
      rw [hAV] at m1 CM DN
      clear NJ e0 hAV hP hT
      go_wp2_with fail
      refine CM.out.mono ?_
      rintro e1 w1 ⟨rfl, n1, g1⟩
      have D1 := hideP (DN.out _ n1 g1)
      have KO : Hid (k + offS f j + (f j).length = k + offS f (j + 1)) := by show _ = _; omega
      rw [KO.out]
      clear n1 g1 CM DN m1
      go_wp2
      go_roundg (n - (j + 1))
      case rel => exact ⟨j + 1, by omega, by go_num, rfl, D1.out.1, D1.out.2⟩
      case measure => omega
    · have hjn : j = n := by omega
      subst hjn
      go_wp2
      go_ret
      exact ⟨rfl, hP.out, hT.out⟩
set_option maxHeartbeats 4000000 in
set_option maxRecDepth 100000 in
theorem heldIntSS_any (n : Nat) (f : Nat → List Int) (w : World) (B ga cap k : Nat) (av : Nat → Value) (h : SsP w B n ga av (mkS f k n)) (hn : n ≤ 1000000) (hk : k ≤ 100000) (hs : offS f n ≤ 10000000) :
    Calls Try.prog 17 #[.slice (some ⟨ga, 0, none⟩) n cap, .int .i64 k] w fun en w' => en = .returned (.int .i64 ((k + offS f n : Nat) : Int)) ∧ w' = w := by
  have H0 := hideP h
  clear h
  go_enter Try.func17, Try.ntmps17
  go_wp2
  go_loopg [1, 5] n (fun gk q i wr => ∃ j : Nat, gk + j = n ∧ i = .int .i64 j ∧ q = .int .i64 ((k + offS f j : Nat) : Int) ∧ wr = w)
  case atStart => exact ⟨0, by simp, rfl, rfl, rfl⟩
  case round =>
    obtain ⟨j, hj, rfl, rfl, rfl⟩ := hrel
    by_cases hlt : j < n
    · have m1 := H0.out.at hlt
      have NJ := H0.out.own j hlt
      have e0 : mkS f k n j = marksI (k + offS f j) (f j).length := if_pos hlt
      rw [e0] at NJ
      have hof := offS_le f (t := j + 1) (n := n) (by omega)
      have hof1 : offS f (j + 1) = offS f j + (f j).length := rfl
      have CM := hideP (heldIntS_num (f j).length wr B (k + offS f j) (av j) NJ (by omega) (by omega))
      have KO : Hid (k + offS f j + (f j).length = k + offS f (j + 1)) := by show _ = _; omega
      rw [KO.out] at CM
      have hk0 : ¬ ((k + offS f (j + 1) : Nat) : Int) < 0 := by omega
      obtain ⟨AV, hAV⟩ : ∃ AV, av j = AV := ⟨_, rfl⟩
      obtain ⟨KN, hKN⟩ : ∃ KN : Nat, k + offS f (j + 1) = KN := ⟨_, rfl⟩
      have HKN := hideP hKN
      rw [hAV] at m1 CM
      rw [hKN] at CM hk0
      clear NJ e0 hAV hKN
      go_wp2_with fail
      refine CM.out.mono ?_
      rintro e1 w1 ⟨rfl, rfl⟩
      clear m1
      go_wp2
      go_roundg (n - (j + 1))
      case rel => exact ⟨j + 1, by omega, by go_num, by rw [HKN.out], rfl⟩
      case measure => omega
    · have hjn : j = n := by omega
      subst hjn
      go_wp2
      go_ret
      exact ⟨rfl, rfl⟩
end Go.Proofs.Ytooaoankloocmaa
