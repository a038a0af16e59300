/- The contract of spec.l11Block (written by wip/mktwsb.py). -/
import Derived.Test.YtjmclmbepnbeoaaFndS
import Derived.Test.YtjmclmbepnbeoaaDefS
import Derived.Test.YtjmclmbepnbeoaaRowA
import Derived.Deep.RegionHeld3
import Derived.Conc.WalkWords
namespace Go.Proofs.Ytjmclmbepnbeoaa
open Go.ChangeShapes Go.WideShapes Go.ChangeAt Go.RowKit
/-- What the search tells of the step. -/
def AtIs (L : List Ins) (x : Ins) (i : Int) : Prop := (i = -1 ∧ twX L x = x) ∨ ∃ k : Nat, ∃ hk : k < L.length, i = (k : Int) ∧ twX L x = ⟨1, x.d, L[k].d, 0, 0, 0, ⟨#[]⟩⟩
theorem at_of {L : List Ins} {x : Ins} {i : Int} (hx : x.op = 2) (h : FindIs L x i) : AtIs L x i := by
  rcases h with ⟨h1, h2⟩ | ⟨k, hk, h1, h2⟩
  · exact Or.inl ⟨h1, by unfold twX; rw [if_pos hx, h2]⟩
  · exact Or.inr ⟨k, hk, h1, by unfold twX; rw [if_pos hx, h2]⟩
theorem at_no (L : List Ins) {x : Ins} (hx : ¬ x.op = 2) : AtIs L x (-1) := Or.inl ⟨rfl, by unfold twX; rw [if_neg hx]⟩
/-- Of the first j those that still stand. -/
def keptUp (L : List Ins) (x : Ins) (j : Nat) : List Ins := keptX (L.take j) x
theorem keptUp_at {L : List Ins} {x : Ins} {j : Nat} (h : j < L.length) : keptUp L x (j + 1) = keptUp L x j ++ (if StandX x L[j] then [L[j]] else []) := by
  unfold keptUp keptX
  rw [List.take_succ_eq_append_getElem h, List.filter_append, List.filter_cons]
  by_cases c : StandX x L[j]
  · simp [c]
  · simp [c]
theorem keptUp_few (L : List Ins) (x : Ins) (j : Nat) : (keptUp L x j).length ≤ j := by
  unfold keptUp keptX
  refine Nat.le_trans (List.length_filter_le _ _) ?_
  rw [List.length_take]; omega
/-- Between two rounds: the steps, those that still stand. -/
structure TbAt (w : World) (O L : List Ins) (o l : Value) (W : World) : Prop where
  out : OwnE InE W w.heap.size o O
  lst : OwnE InE W w.heap.size l L
  ne : o.ownBlock ≠ l.ownBlock
  bel : Below w.heap.size w W
theorem TbAt.stays {w W W' : World} {O L : List Ins} {o l : Value} (h : TbAt w O L o l W) (b : Below W.heap.size W W') : TbAt w O L o l W' := ⟨h.out.stays b, h.lst.stays b, h.ne, below_trans h.bel b⟩
theorem own_nb {w : World} {B : Nat} {v : Value} {L : List Ins} (h : OwnE InE w B v L) {k : Nat} (hk : w.heap.size ≤ k) : v.ownBlock ≠ some k := fun e => by have := (h.low k e).2; omega
/-- Within a round. -/
structure KbAt (w : World) (O L Kx : List Ins) (o l kv : Value) (b6 b8 : Nat) (cx cy : Array Value) (W : World) : Prop where
  out : OwnE InE W w.heap.size o O
  lst : OwnE InE W w.heap.size l L
  kpt : OwnE InE W w.heap.size kv Kx
  n2 : o.ownBlock ≠ kv.ownBlock
  n3 : l.ownBlock ≠ kv.ownBlock
  e6 : kv.ownBlock ≠ some b6
  e8 : kv.ownBlock ≠ some b8
  x6 : W.heap[b6]? = some (.cells cx 48 (0, 0))
  x8 : W.heap[b8]? = some (.cells cy 48 (0, 0))
  bel : Below w.heap.size w W
section
variable {w W W' Wa : World} {O L Kx : List Ins} {o l kv kv' : Value} {b6 b8 : Nat} {cx cy : Array Value}
theorem KbAt.stays (h : KbAt w O L Kx o l kv b6 b8 cx cy W) (b : Below W.heap.size W W') : KbAt w O L Kx o l kv b6 b8 cx cy W' :=
  ⟨h.out.stays b, h.lst.stays b, h.kpt.stays b, h.n2, h.n3, h.e6, h.e8, (b.block _ (hltP h.x6)).trans h.x6, (b.block _ (hltP h.x8)).trans h.x8, below_trans h.bel b⟩
theorem KbAt.app (h : KbAt w O L Kx o l kv b6 b8 cx cy W) (b : Below W.heap.size W Wa) {x : Ins} (ho : OwnE InE W' w.heap.size kv' (Kx ++ [x])) (hg : Wa.grownBy W' kv.ownBlock) (hl : kv'.ownBlock = kv.ownBlock ∨ kv'.ownBlock = some Wa.heap.size) : KbAt w O L (Kx ++ [x]) o l kv' b6 b8 cx cy W' := by
  have ha := h.stays b
  have f : ∀ (v : Value) (q : List Ins), OwnE InE Wa w.heap.size v q → v.ownBlock ≠ kv.ownBlock → v.ownBlock ≠ kv'.ownBlock := fun v q h1 h2 => by
    rcases hl with e | e
    · rw [e]; exact h2
    · rw [e]; exact own_nb h1 (Nat.le_refl _)
  have g : ∀ (bb : Nat) (c : Array Value), Wa.heap[bb]? = some (.cells c 48 (0, 0)) → kv.ownBlock ≠ some bb → kv'.ownBlock ≠ some bb ∧ W'.heap[bb]? = some (.cells c 48 (0, 0)) := fun bb c h1 h2 => by
    have hlt := hltP h1
    refine ⟨?_, (hg.block bb hlt (fun e => h2 e.symm)).trans h1⟩
    rcases hl with e | e
    · rw [e]; exact h2
    · rw [e]; intro e2; injection e2 with e2; omega
  exact ⟨ha.out.kept hg ha.n2, ha.lst.kept hg ha.n3, ho, f _ _ ha.out ha.n2, f _ _ ha.lst ha.n3, (g _ _ ha.x6 ha.e6).1, (g _ _ ha.x8 ha.e8).1, (g _ _ ha.x6 ha.e6).2, (g _ _ ha.x8 ha.e8).2, ha.bel.grown hg ha.bel.size (fun k hk => (ha.kpt.low k hk).1)⟩
/-- The step is put behind; those that stand are the list. -/
theorem KbAt.close (h : KbAt w O L Kx o l kv b6 b8 cx cy W) (b : Below W.heap.size W Wa) {o' : Value} {y : Ins} (ho : OwnE InE W' w.heap.size o' (O ++ [y])) (hg : Wa.grownBy W' o.ownBlock) (hl : o'.ownBlock = o.ownBlock ∨ o'.ownBlock = some Wa.heap.size) : TbAt w (O ++ [y]) Kx o' kv W' := by
  have ha := h.stays b
  refine ⟨ho, ha.kpt.kept hg (fun e => ha.n2 e.symm), ?_, ha.bel.grown hg ha.bel.size (fun k hk => (ha.out.low k hk).1)⟩
  rcases hl with e | e
  · rw [e]; exact ha.n2
  · rw [e]; exact fun e2 => own_nb ha.kpt (Nat.le_refl _) e2.symm
end
set_option maxRecDepth 100000 in
set_option maxHeartbeats 16000000 in
theorem block11_any (code : List Ins) (w : World) (B : Nat) (u : Option Addr) (kc : Nat) (hc : SlIs InsIs 7 w B u code) (hl : code.length ≤ 1000) :
    Calls Try.prog 51 #[.slice u code.length kc] w fun e w' => ∃ v', e = .returned v' ∧ OwnE InE w' w.heap.size v' (twUp code).2 ∧ Below w.heap.size w w' := by
  have HC := hideP hc
  have S0 : Hid (TbAt w [] [] (.slice (some ⟨w.heap.size, 0, none⟩) 0 0) (.slice (some ⟨w.heap.size + 1, 0, none⟩) 0 0) ((w.alloc (.cells #[] 48)).alloc (.cells #[] 48))) := by
    have o1 := own_nil InOk w w.heap.size rfl
    have o2 := own_nil InOk (w.alloc (.cells #[] 48)) (w.heap.size + 1) (by simp)
    exact ⟨o1.stays ((Below.refl _ _).alloc (Nat.le_refl _) _), o2.mono (by simp), by simp [Value.ownBlock], below2 w _ _⟩
  obtain ⟨N, hN⟩ : ∃ N, code.length = N := ⟨_, rfl⟩
  have HN := hideP hN
  rw [hN]
  rw [hN] at hl
  clear hc hN
  go_enter Try.func51, Try.ntmps51
  go_wp2
  go_loopg [3, 4, 5] N (fun gk q l i wr => ∃ j : Nat, gk + j = N ∧ i = .int .i64 j ∧ Hid (TbAt w (scanUp twF [] code j).2 (scanUp twF [] code j).1 q l wr))
  case atStart => exact ⟨0, by simp, rfl, by simpa [scanUp] using S0⟩
  case round =>
    obtain ⟨j, hj, rfl, hS⟩ := hrel
    clear S0
    by_cases hlt : j < N
    · have hjc : j < code.length := by rw [HN.out]; exact hlt
      obtain ⟨bi, oi, op, d, a, b0, c0, nn, t, hu, _, hbi, hX, x0, x1, x2, x3, x4, x5, x6, hIns⟩ := Ins_get (HC.out.stays InsKeeps hS.out.bel) j hjc
      subst hu
      obtain ⟨L, hL⟩ : ∃ L, (scanUp twF [] code j).1 = L := ⟨_, rfl⟩
      obtain ⟨O, hO⟩ : ∃ O, (scanUp twF [] code j).2 = O := ⟨_, rfl⟩
      have hLn : L.length ≤ 1000 := by rw [← hL]; have := scanTw_few code j; omega
      have hOn : O.length ≤ 1000 := by rw [← hO, scanUp_len j (by omega)]; omega
      have UP : Hid (scanUp twF [] code (j + 1) = (twK L (⟨op, d, a, b0, c0, nn, t⟩ : Ins), O ++ [twX L (⟨op, d, a, b0, c0, nn, t⟩ : Ins)])) := by
        show _ = _
        rw [scanUp_at hjc, hX, hL, hO]; rfl
      rw [hL, hO] at hS
      obtain ⟨go, co, rfl, _⟩ := id hS.out.out
      obtain ⟨gl, cl, rfl, _⟩ := id hS.out.lst
      have al := (Below.refl wr.heap.size wr).alloc (Nat.le_refl _) (.cells #[.int .i64 op, .int .i64 d, .int .i64 a, .int .i64 b0, .int .i64 c0, .int .i64 nn, .string t] 48)
      have S1 := hideP (hS.out.stays al)
      have X6 := hideP (newI wr #[.int .i64 op, .int .i64 d, .int .i64 a, .int .i64 b0, .int .i64 c0, .int .i64 nn, .string t])
      have hb6 : Hid (wr.heap.size < (wr.alloc (.cells #[.int .i64 op, .int .i64 d, .int .i64 a, .int .i64 b0, .int .i64 c0, .int .i64 nn, .string t] 48)).heap.size) := by show _ < _; simp
      have e6o : Hid (¬ go = wr.heap.size ∧ ¬ gl = wr.heap.size) := ⟨fun e => own_nb hS.out.out (Nat.le_refl _) (by rw [← e]; rfl), fun e => own_nb hS.out.lst (Nat.le_refl _) (by rw [← e]; rfl)⟩
      have FD : Hid (∀ W, Below (wr.alloc (.cells #[.int .i64 op, .int .i64 d, .int .i64 a, .int .i64 b0, .int .i64 c0, .int .i64 nn, .string t] 48)).heap.size (wr.alloc (.cells #[.int .i64 op, .int .i64 d, .int .i64 a, .int .i64 b0, .int .i64 c0, .int .i64 nn, .string t] 48)) W → Calls Try.prog 88 #[.slice (some ⟨gl, 0, none⟩) L.length cl, .agg #[.int .i64 op, .int .i64 d, .int .i64 a, .int .i64 b0, .int .i64 c0, .int .i64 nn, .string t]] W fun e w' => ∃ i : Int, e = .returned (.int .i64 i) ∧ FindIs L (⟨op, d, a, b0, c0, nn, t⟩ : Ins) i ∧ Below W.heap.size W w') := fun W hW => find11_any L (⟨op, d, a, b0, c0, nn, t⟩ : Ins) W w.heap.size gl cl (S1.out.lst.stays hW) hLn
      clear hX hL hO hIns al hS
      go_upto_region 7 with fail
      obtain ⟨w1, hw1⟩ : ∃ w1, wr.alloc (.cells #[.int .i64 op, .int .i64 d, .int .i64 a, .int .i64 b0, .int .i64 c0, .int .i64 nn, .string t] 48) = w1 := ⟨_, rfl⟩
      obtain ⟨b6, hb6e⟩ : ∃ b6, wr.heap.size = b6 := ⟨_, rfl⟩
      rw [hw1] at S1 X6 FD hb6 ⊢
      rw [hb6e] at X6 hb6 e6o ⊢
      clear hw1 hb6e x0 x1 x2 x3 x4 x5 x6
      have fc := (cells_of X6.out).1
      have y0 := fc 0
      have y1 := fc 1
      have y2 := fc 2
      have y3 := fc 3
      have y4 := fc 4
      have y5 := fc 5
      have y6 := fc 6
      simp at y0 y1 y2 y3 y4 y5 y6
      clear fc
      go_upto_if 25 with fail
      go_cut [7] from 13 to 112 (fun s7 wx => ∃ i : Int, s7 = .int .i64 i ∧ Hid (AtIs L (⟨op, d, a, b0, c0, nn, t⟩ : Ins) i) ∧ Hid (Below w1.heap.size w1 wx))
      case first =>
        by_cases h2 : op = 2
        · subst h2
          go_wp2_with fail
          refine (FD.out _ (Below.refl _ _)).mono ?_
          rintro e2 w2 ⟨i, rfl, hi, b2⟩
          have HI := hideP (at_of (x := (⟨2, d, a, b0, c0, nn, t⟩ : Ins)) rfl hi)
          have B2 := hideP b2
          clear hi b2
          go_wp2
          go_meet
          exact ⟨i, rfl, HI.out, B2.out⟩
        · have h2b : (op == 2) = false := by simpa using h2
          have HI := hideP (at_no L (x := (⟨op, d, a, b0, c0, nn, t⟩ : Ins)) h2)
          go_wp2
          go_meet
          exact ⟨-1, rfl, HI.out, Below.refl _ _⟩
      case rest =>
      obtain ⟨i, rfl, hAt, hB2⟩ := hcut
      obtain ⟨wq, rfl⟩ : ∃ q, q = wc := ⟨_, rfl⟩
      clear FD y0 y1 y2 y3 y4 y5 y6
      have S2 := hideP (S1.out.stays hB2.out)
      have X62 := hideP ((hB2.out.block _ (hltP X6.out)).trans X6.out)
      have al := (Below.refl wq.heap.size wq).alloc (Nat.le_refl _) (.cells #[.int .i64 op, .int .i64 d, .int .i64 a, .int .i64 b0, .int .i64 c0, .int .i64 nn, .string t] 48)
      have S3 := hideP (S2.out.stays al)
      have X63 := hideP ((al.block _ (hltP X62.out)).trans X62.out)
      have X8 := hideP (newI wq #[.int .i64 op, .int .i64 d, .int .i64 a, .int .i64 b0, .int .i64 c0, .int .i64 nn, .string t])
      have hb8 : Hid (b6 < wq.heap.size ∧ go < wq.heap.size ∧ gl < wq.heap.size) := ⟨hltP X62.out, (S2.out.out.low go rfl).2, (S2.out.lst.low gl rfl).2⟩
      clear S1 S2 X6 al hB2 hb6
      have fc := (cells_of X62.out).1
      have y0 := fc 0
      have y1 := fc 1
      have y2 := fc 2
      have y3 := fc 3
      have y4 := fc 4
      have y5 := fc 5
      have y6 := fc 6
      simp at y0 y1 y2 y3 y4 y5 y6
      clear fc
      go_upto_if 31 with fail
      obtain ⟨w2, hw2⟩ : ∃ w2, wq.alloc (.cells #[.int .i64 op, .int .i64 d, .int .i64 a, .int .i64 b0, .int .i64 c0, .int .i64 nn, .string t] 48) = w2 := ⟨_, rfl⟩
      obtain ⟨b8, hb8e⟩ : ∃ b8, wq.heap.size = b8 := ⟨_, rfl⟩
      rw [hw2] at S3 X63 X8 ⊢
      rw [hb8e] at X8 hb8 ⊢
      clear hw2 hb8e y0 y1 y2 y3 y4 y5 y6 X62
      obtain ⟨Y, hY⟩ : ∃ Y, twX L (⟨op, d, a, b0, c0, nn, t⟩ : Ins) = Y := ⟨_, rfl⟩
      rw [hY] at UP
      unfold AtIs at hAt
      rw [hY] at hAt
      clear hY
      go_cut [7] from 13 to 112 (fun s7 wx => Hid (wx.heap[b8]? = some (.cells (insV Y) 48 (0, 0))) ∧ Hid (But b8 w2 wx))
      case first =>
        rcases hAt.out with ⟨rfl, rfl⟩ | ⟨k, hk, rfl, rfl⟩
        · clear hAt
          go_wp2
          go_meet
          exact ⟨X8.out, But.refl _ _⟩
        · clear hAt
          obtain ⟨op1, d1, a1, b1, c1, m1, t1, hz, q0, q1, q2, q3, q4, q5, q6⟩ := own_ins S3.out.lst k hk
          have HZ := hideP hz
          have hki : (k : Int) < (L.length : Int) := by omega
          clear hz q0 q2 q3 q4 q5 q6
          have fc := (cells_of X63.out).1
          have y0 := fc 0
          have y1 := fc 1
          have y2 := fc 2
          have y3 := fc 3
          have y4 := fc 4
          have y5 := fc 5
          have y6 := fc 6
          simp at y0 y1 y2 y3 y4 y5 y6
          clear fc
          have fc := (cells_of X8.out).1
          have z0 := fc 0
          have z1 := fc 1
          have z2 := fc 2
          have z3 := fc 3
          have z4 := fc 4
          have z5 := fc 5
          have z6 := fc 6
          simp at z0 z1 z2 z3 z4 z5 z6
          clear fc
          have zf := (cells_of X8.out).2
          go_wp2
          go_region
          obtain ⟨w3, hw3⟩ : ∃ w3, (((((((w2.setCell ⟨b8, 0, none⟩ (.int .i64 1)).setCell ⟨b8, 1, none⟩ (.int .i64 d)).setCell ⟨b8, 2, none⟩ (.int .i64 d1)).setCell ⟨b8, 3, none⟩ (.int .i64 0)).setCell ⟨b8, 4, none⟩ (.int .i64 0)).setCell ⟨b8, 5, none⟩ (.int .i64 0)).setCell ⟨b8, 6, none⟩ (.string ⟨#[]⟩)).drew = w3 := ⟨_, rfl⟩
          rw [hw3]
          have P7 := hideP (put7 X8.out rfl _ _ _ _ _ _ _ hw3)
          clear hw3
          go_wp2_with fail
          go_meet
          rw [HZ.out]
          exact ⟨P7.out.1, P7.out.2⟩
      case rest =>
      obtain ⟨hX8, hBu⟩ := hcut
      obtain ⟨w3, rfl⟩ : ∃ q, q = wc := ⟨_, rfl⟩
      clear hAt X8
      have hbb := hb8.out
      have al := (Below.refl w3.heap.size w3).alloc (Nat.le_refl _) (.cells #[] 48)
      have K0 : Hid (KbAt w O L [] (.slice (some ⟨go, 0, none⟩) O.length co) (.slice (some ⟨gl, 0, none⟩) L.length cl) (.slice (some ⟨w3.heap.size, 0, none⟩) 0 0) b6 b8 #[.int .i64 op, .int .i64 d, .int .i64 a, .int .i64 b0, .int .i64 c0, .int .i64 nn, .string t] (insV Y) (w3.alloc (.cells #[] 48))) := by
        have hb3 := hltP hX8.out
        have ho := S3.out.out.butG hBu.out (by simp only [Value.ownBlock]; intro e; injection e with e; omega)
        have hl2 := S3.out.lst.butG hBu.out (by simp only [Value.ownBlock]; intro e; injection e with e; omega)
        have hx6 := keepQ hBu.out X63.out (show b6 ≠ b8 by omega)
        have hbw : w.heap.size ≤ b8 := by have := (S3.out.out.low go rfl).1; omega
        have hbl := S3.out.bel.trans (hBu.out.below hbw S3.out.bel.size)
        have on := own_nil InOk w3 w3.heap.size rfl
        have hg1 := (ho.low go rfl).2
        have hg2 := (hl2.low gl rfl).2
        have hg3 := hltP hx6
        refine ⟨ho.stays al, hl2.stays al, on.mono hbl.size, ?_, ?_, ?_, ?_, (al.block _ hg3).trans hx6, (al.block _ hb3).trans hX8.out, below_trans hbl al⟩
        all_goals (simp only [Value.ownBlock]; intro e; injection e with e; omega)
      have HO8 := hideP hb8.out
      clear S3 X63 hX8 hBu al hbb hb8
      go_upto_region 14 with fail
      obtain ⟨w4, hw4⟩ : ∃ w4, w3.alloc (.cells #[] 48) = w4 := ⟨_, rfl⟩
      obtain ⟨gk3, hg3⟩ : ∃ g, w3.heap.size = g := ⟨_, rfl⟩
      rw [hw4] at K0 ⊢
      rw [hg3] at K0 ⊢
      clear hw4 hg3
      obtain ⟨NL, hNL⟩ : ∃ NL, L.length = NL := ⟨_, rfl⟩
      have HNL := hideP hNL
      rw [hNL] at K0 hLn ⊢
      clear hNL
      go_wp2
      go_loopg [9, 10] NL (fun gk kv ix wr => ∃ k : Nat, gk + k = NL ∧ ix = .int .i64 k ∧ Hid (KbAt w O L (keptUp L (⟨op, d, a, b0, c0, nn, t⟩ : Ins) k) (.slice (some ⟨go, 0, none⟩) O.length co) (.slice (some ⟨gl, 0, none⟩) NL cl) kv b6 b8 #[.int .i64 op, .int .i64 d, .int .i64 a, .int .i64 b0, .int .i64 c0, .int .i64 nn, .string t] (insV Y) wr))
      case atStart => exact ⟨0, by simp, rfl, by simpa [keptUp, keptX] using K0⟩
      case round =>
        obtain ⟨k, hk, rfl, hI⟩ := hrel
        clear K0
        by_cases hkl : k < NL
        · have hkL : k < L.length := by rw [HNL.out]; exact hkl
          obtain ⟨op1, d1, a1, b1, c1, m1, t1, hz, q0, q1, q2, q3, q4, q5, q6⟩ := own_ins hI.out.lst k hkL
          obtain ⟨Kx, hKx⟩ : ∃ Kx, keptUp L (⟨op, d, a, b0, c0, nn, t⟩ : Ins) k = Kx := ⟨_, rfl⟩
          have hKn : Kx.length ≤ 1000 := by rw [← hKx]; have := keptUp_few L (⟨op, d, a, b0, c0, nn, t⟩ : Ins) k; omega
          have UPK : Hid (keptUp L (⟨op, d, a, b0, c0, nn, t⟩ : Ins) (k + 1) = Kx ++ (if StandX (⟨op, d, a, b0, c0, nn, t⟩ : Ins) ⟨op1, d1, a1, b1, c1, m1, t1⟩ then [⟨op1, d1, a1, b1, c1, m1, t1⟩] else [])) := by
            show _ = _
            rw [keptUp_at hkL, hKx, hz]
          rw [hKx] at hI
          obtain ⟨gv, cv, rfl, _⟩ := id hI.out.kpt
          obtain ⟨df, hdf⟩ : ∃ df, decide (op ≠ 4 ∧ op ≠ 6) = df := ⟨_, rfl⟩
          have DE : Hid (∀ W, Calls Try.prog 58 #[.agg #[.int .i64 op, .int .i64 d, .int .i64 a, .int .i64 b0, .int .i64 c0, .int .i64 nn, .string t]] W fun e w' => e = .returned (.bool df) ∧ Below W.heap.size W w') := fun W => hdf ▸ def_any (⟨op, d, a, b0, c0, nn, t⟩ : Ins) W
          obtain ⟨kb, hkb⟩ : ∃ kb, decide (StandX (⟨op, d, a, b0, c0, nn, t⟩ : Ins) ⟨op1, d1, a1, b1, c1, m1, t1⟩) = kb := ⟨_, rfl⟩
          have HKB := hideP hkb
          have HDF := hideP hdf
          have HZ := hideP hz
          have SK : Hid (∀ W' : World, Below wr.heap.size wr W' → W'.cell? ⟨b6, 0, none⟩ = some (.int .i64 op) ∧ W'.cell? ⟨b6, 1, none⟩ = some (.int .i64 d) ∧ W'.cell? ⟨b6, 2, none⟩ = some (.int .i64 a) ∧ W'.cell? ⟨b6, 3, none⟩ = some (.int .i64 b0) ∧ W'.cell? ⟨b6, 4, none⟩ = some (.int .i64 c0) ∧ W'.cell? ⟨b6, 5, none⟩ = some (.int .i64 nn) ∧ W'.cell? ⟨b6, 6, none⟩ = some (.string t) ∧ W'.cell? ⟨gl, k * 7 + 2, none⟩ = some (.int .i64 a1) ∧ W'.cell? ⟨gl, k * 7 + 3, none⟩ = some (.int .i64 b1) ∧ W'.cell? ⟨gl, k * 7 + 1, none⟩ = some (.int .i64 d1)) := fun W' hb => by
            have f := (cells_of ((hb.block _ (hltP hI.out.x6)).trans hI.out.x6)).1
            have hgl := (hI.out.lst.low gl rfl).2
            exact ⟨f 0, f 1, f 2, f 3, f 4, f 5, f 6, (hb.cell (p := ⟨gl, k * 7 + 2, none⟩) hgl).trans q2, (hb.cell (p := ⟨gl, k * 7 + 3, none⟩) hgl).trans q3, (hb.cell (p := ⟨gl, k * 7 + 1, none⟩) hgl).trans q1⟩
          have hki : (k : Int) < (NL : Int) := by omega
          clear hz hKx hkb hdf q0 q1 q2 q3 q4 q5 q6
          go_upto_region 17 with fail
          go_cut [79] from 41 to 86 (fun s79 wx => s79 = .bool kb ∧ Hid (Below wr.heap.size wr wx))
          case first =>
            by_cases h46 : op = 4 ∨ op = 6
            · obtain rfl : df = false := by rw [← HDF.out]; simp; omega
              obtain rfl : kb = true := by rw [← HKB.out]; exact decide_eq_true (Or.inl h46)
              refine wp_region_held_drew (S := fun W' => W'.cell? ⟨b6, 0, none⟩ = some (.int .i64 op) ∧ W'.cell? ⟨b6, 1, none⟩ = some (.int .i64 d) ∧ W'.cell? ⟨b6, 2, none⟩ = some (.int .i64 a) ∧ W'.cell? ⟨b6, 3, none⟩ = some (.int .i64 b0) ∧ W'.cell? ⟨b6, 4, none⟩ = some (.int .i64 c0) ∧ W'.cell? ⟨b6, 5, none⟩ = some (.int .i64 nn) ∧ W'.cell? ⟨b6, 6, none⟩ = some (.string t) ∧ W'.cell? ⟨gl, k * 7 + 2, none⟩ = some (.int .i64 a1) ∧ W'.cell? ⟨gl, k * 7 + 3, none⟩ = some (.int .i64 b1) ∧ W'.cell? ⟨gl, k * 7 + 1, none⟩ = some (.int .i64 d1)) (by kernel_rfl) (SK.out _ (Below.refl _ _).drew) (fun hHeld => ?_)
              refine wpAnyH_take (i := 0) (v := (.agg #[.int .i64 op, .int .i64 d, .int .i64 a, .int .i64 b0, .int .i64 c0, .int .i64 nn, .string t])) rfl (by kernel_rfl) (by kernel_rfl) (by kernel_rfl) (fun _ _ _ h => h) (Or.inl ⟨by rfl, ?_⟩) hHeld ?_
              · (intro w hSw; (try dsimp only at hSw); go_simp)
              walk_nrm
              refine wpAnyH_ready (rs := [1]) (by kernel_rfl) (by simp) ?_
              refine AllReadyH.cons rfl (fun K hK => ?_) AllReadyH.nil
              go_simp
              go_at_call 58
              refine (DE.out _).mono ?_
              rintro ea wa ⟨rfl, bela⟩
              have HBa := hideP ((Below.refl wr.heap.size wr).drew.trans (bela.mono (Nat.le_refl _)))
              clear bela
              go_wp2_with fail
              refine hK.out _ _ (SK.out _ HBa.out) (fun hHeld => ?_)
              clear hK K
              refine wpAnyH_take (i := 2) (v := (.bool true)) rfl (by kernel_rfl) (by kernel_rfl) (by kernel_rfl) (fun _ _ _ h => h) (Or.inl ⟨by rfl, ?_⟩) hHeld ?_
              · (intro w hSw; (try dsimp only at hSw); go_simp)
              walk_nrm
              refine wpAnyH_take (i := 3) (v := (.bool true)) rfl (by kernel_rfl) (by kernel_rfl) (by kernel_rfl) (fun _ _ _ h => h) (Or.inl ⟨by rfl, ?_⟩) hHeld ?_
              · (intro w hSw; (try dsimp only at hSw); go_simp)
              walk_nrm
              refine wpAnyH_take (i := 4) (v := undef) rfl (by kernel_rfl) (by kernel_rfl) (by kernel_rfl) (fun _ _ _ h => h) (Or.inr ⟨by rfl, rfl⟩) hHeld ?_
              walk_nrm
              refine wpAnyH_take (i := 5) (v := undef) rfl (by kernel_rfl) (by kernel_rfl) (by kernel_rfl) (fun _ _ _ h => h) (Or.inr ⟨by rfl, rfl⟩) hHeld ?_
              walk_nrm
              refine wpAnyH_take (i := 6) (v := undef) rfl (by kernel_rfl) (by kernel_rfl) (by kernel_rfl) (fun _ _ _ h => h) (Or.inr ⟨by rfl, rfl⟩) hHeld ?_
              walk_nrm
              refine wpAnyH_take (i := 7) (v := undef) rfl (by kernel_rfl) (by kernel_rfl) (by kernel_rfl) (fun _ _ _ h => h) (Or.inr ⟨by rfl, rfl⟩) hHeld ?_
              walk_nrm
              refine wpAnyH_take (i := 8) (v := undef) rfl (by kernel_rfl) (by kernel_rfl) (by kernel_rfl) (fun _ _ _ h => h) (Or.inr ⟨by rfl, rfl⟩) hHeld ?_
              walk_nrm
              refine wpAnyH_take (i := 9) (v := undef) rfl (by kernel_rfl) (by kernel_rfl) (by kernel_rfl) (fun _ _ _ h => h) (Or.inr ⟨by rfl, rfl⟩) hHeld ?_
              walk_nrm
              refine wpAnyH_take (i := 10) (v := undef) rfl (by kernel_rfl) (by kernel_rfl) (by kernel_rfl) (fun _ _ _ h => h) (Or.inr ⟨by rfl, rfl⟩) hHeld ?_
              walk_nrm
              refine wpAnyH_take (i := 11) (v := undef) rfl (by kernel_rfl) (by kernel_rfl) (by kernel_rfl) (fun _ _ _ h => h) (Or.inr ⟨by rfl, rfl⟩) hHeld ?_
              walk_nrm
              refine wpAnyH_take (i := 12) (v := undef) rfl (by kernel_rfl) (by kernel_rfl) (by kernel_rfl) (fun _ _ _ h => h) (Or.inr ⟨by rfl, rfl⟩) hHeld ?_
              walk_nrm
              refine wpAnyH_take (i := 13) (v := undef) rfl (by kernel_rfl) (by kernel_rfl) (by kernel_rfl) (fun _ _ _ h => h) (Or.inr ⟨by rfl, rfl⟩) hHeld ?_
              walk_nrm
              refine wpAnyH_take (i := 14) (v := undef) rfl (by kernel_rfl) (by kernel_rfl) (by kernel_rfl) (fun _ _ _ h => h) (Or.inr ⟨by rfl, rfl⟩) hHeld ?_
              walk_nrm
              refine wpAnyH_take (i := 15) (v := undef) rfl (by kernel_rfl) (by kernel_rfl) (by kernel_rfl) (fun _ _ _ h => h) (Or.inr ⟨by rfl, rfl⟩) hHeld ?_
              walk_nrm
              refine wpAnyH_take (i := 16) (v := undef) rfl (by kernel_rfl) (by kernel_rfl) (by kernel_rfl) (fun _ _ _ h => h) (Or.inr ⟨by rfl, rfl⟩) hHeld ?_
              walk_nrm
              refine wpAnyH_take (i := 17) (v := undef) rfl (by kernel_rfl) (by kernel_rfl) (by kernel_rfl) (fun _ _ _ h => h) (Or.inr ⟨by rfl, rfl⟩) hHeld ?_
              walk_nrm
              refine wpAnyH_take (i := 18) (v := undef) rfl (by kernel_rfl) (by kernel_rfl) (by kernel_rfl) (fun _ _ _ h => h) (Or.inr ⟨by rfl, rfl⟩) hHeld ?_
              walk_nrm
              refine wpAnyH_take (i := 19) (v := undef) rfl (by kernel_rfl) (by kernel_rfl) (by kernel_rfl) (fun _ _ _ h => h) (Or.inr ⟨by rfl, rfl⟩) hHeld ?_
              walk_nrm
              refine wpAnyH_take (i := 20) (v := undef) rfl (by kernel_rfl) (by kernel_rfl) (by kernel_rfl) (fun _ _ _ h => h) (Or.inr ⟨by rfl, rfl⟩) hHeld ?_
              walk_nrm
              refine wpAnyH_take (i := 21) (v := undef) rfl (by kernel_rfl) (by kernel_rfl) (by kernel_rfl) (fun _ _ _ h => h) (Or.inr ⟨by rfl, rfl⟩) hHeld ?_
              walk_nrm
              refine wpAnyH_take (i := 22) (v := undef) rfl (by kernel_rfl) (by kernel_rfl) (by kernel_rfl) (fun _ _ _ h => h) (Or.inr ⟨by rfl, rfl⟩) hHeld ?_
              walk_nrm
              refine wpAnyH_take (i := 23) (v := undef) rfl (by kernel_rfl) (by kernel_rfl) (by kernel_rfl) (fun _ _ _ h => h) (Or.inr ⟨by rfl, rfl⟩) hHeld ?_
              walk_nrm
              refine wpAnyH_take (i := 24) (v := undef) rfl (by kernel_rfl) (by kernel_rfl) (by kernel_rfl) (fun _ _ _ h => h) (Or.inr ⟨by rfl, rfl⟩) hHeld ?_
              walk_nrm
              refine wpAnyH_take (i := 25) (v := undef) rfl (by kernel_rfl) (by kernel_rfl) (by kernel_rfl) (fun _ _ _ h => h) (Or.inr ⟨by rfl, rfl⟩) hHeld ?_
              walk_nrm
              refine wpAnyH_take (i := 26) (v := undef) rfl (by kernel_rfl) (by kernel_rfl) (by kernel_rfl) (fun _ _ _ h => h) (Or.inr ⟨by rfl, rfl⟩) hHeld ?_
              walk_nrm
              refine wpAnyH_take (i := 27) (v := undef) rfl (by kernel_rfl) (by kernel_rfl) (by kernel_rfl) (fun _ _ _ h => h) (Or.inr ⟨by rfl, rfl⟩) hHeld ?_
              walk_nrm
              refine wpAnyH_take (i := 28) (v := undef) rfl (by kernel_rfl) (by kernel_rfl) (by kernel_rfl) (fun _ _ _ h => h) (Or.inr ⟨by rfl, rfl⟩) hHeld ?_
              walk_nrm
              refine wpAnyH_take (i := 29) (v := undef) rfl (by kernel_rfl) (by kernel_rfl) (by kernel_rfl) (fun _ _ _ h => h) (Or.inr ⟨by rfl, rfl⟩) hHeld ?_
              walk_nrm
              refine wpAnyH_take (i := 30) (v := undef) rfl (by kernel_rfl) (by kernel_rfl) (by kernel_rfl) (fun _ _ _ h => h) (Or.inr ⟨by rfl, rfl⟩) hHeld ?_
              walk_nrm
              refine wpAnyH_take (i := 31) (v := undef) rfl (by kernel_rfl) (by kernel_rfl) (by kernel_rfl) (fun _ _ _ h => h) (Or.inr ⟨by rfl, rfl⟩) hHeld ?_
              walk_nrm
              refine wpAnyH_take (i := 32) (v := (.bool true)) rfl (by kernel_rfl) (by kernel_rfl) (by kernel_rfl) (fun _ _ _ h => h) (Or.inl ⟨by rfl, ?_⟩) hHeld ?_
              · (intro w hSw; (try dsimp only at hSw); go_simp)
              walk_nrm
              refine wpAnyH_done (by kernel_rfl) ?_ _
              go_wp2_with fail
              go_meet
              exact ⟨rfl, HBa⟩
            · obtain rfl : df = true := by rw [← HDF.out]; simp; omega
              by_cases ha : a1 = d
              · obtain rfl : kb = false := by rw [← HKB.out]; exact decide_eq_false (fun h => h.elim h46 (fun h2 => h2.1 ha))
                have hab : (a1 == d) = true := by simpa using ha
                have hac : (a1 != d) = false := by simp [ha]
                refine wp_region_held_drew (S := fun W' => W'.cell? ⟨b6, 0, none⟩ = some (.int .i64 op) ∧ W'.cell? ⟨b6, 1, none⟩ = some (.int .i64 d) ∧ W'.cell? ⟨b6, 2, none⟩ = some (.int .i64 a) ∧ W'.cell? ⟨b6, 3, none⟩ = some (.int .i64 b0) ∧ W'.cell? ⟨b6, 4, none⟩ = some (.int .i64 c0) ∧ W'.cell? ⟨b6, 5, none⟩ = some (.int .i64 nn) ∧ W'.cell? ⟨b6, 6, none⟩ = some (.string t) ∧ W'.cell? ⟨gl, k * 7 + 2, none⟩ = some (.int .i64 a1) ∧ W'.cell? ⟨gl, k * 7 + 3, none⟩ = some (.int .i64 b1) ∧ W'.cell? ⟨gl, k * 7 + 1, none⟩ = some (.int .i64 d1)) (by kernel_rfl) (SK.out _ (Below.refl _ _).drew) (fun hHeld => ?_)
                refine wpAnyH_take (i := 0) (v := (.agg #[.int .i64 op, .int .i64 d, .int .i64 a, .int .i64 b0, .int .i64 c0, .int .i64 nn, .string t])) rfl (by kernel_rfl) (by kernel_rfl) (by kernel_rfl) (fun _ _ _ h => h) (Or.inl ⟨by rfl, ?_⟩) hHeld ?_
                · (intro w hSw; (try dsimp only at hSw); go_simp)
                walk_nrm
                refine wpAnyH_ready (rs := [1]) (by kernel_rfl) (by simp) ?_
                refine AllReadyH.cons rfl (fun K hK => ?_) AllReadyH.nil
                go_simp
                go_at_call 58
                refine (DE.out _).mono ?_
                rintro ea wa ⟨rfl, bela⟩
                have HBa := hideP ((Below.refl wr.heap.size wr).drew.trans (bela.mono (Nat.le_refl _)))
                clear bela
                go_wp2_with fail
                refine hK.out _ _ (SK.out _ HBa.out) (fun hHeld => ?_)
                clear hK K
                refine wpAnyH_take (i := 2) (v := (.bool false)) rfl (by kernel_rfl) (by kernel_rfl) (by kernel_rfl) (fun _ _ _ h => h) (Or.inl ⟨by rfl, ?_⟩) hHeld ?_
                · (intro w hSw; (try dsimp only at hSw); go_simp)
                walk_nrm
                refine wpAnyH_take (i := 3) (v := (.bool false)) rfl (by kernel_rfl) (by kernel_rfl) (by kernel_rfl) (fun _ _ _ h => h) (Or.inl ⟨by rfl, ?_⟩) hHeld ?_
                · (intro w hSw; (try dsimp only at hSw); go_simp)
                walk_nrm
                refine wpAnyH_take (i := 4) (v := (.slice (some ⟨gl, 0, none⟩) NL cl)) rfl (by kernel_rfl) (by kernel_rfl) (by kernel_rfl) (fun _ _ _ h => h) (Or.inl ⟨by rfl, ?_⟩) hHeld ?_
                · (intro w hSw; (try dsimp only at hSw); go_simp)
                walk_nrm
                refine wpAnyH_take (i := 5) (v := (.int .i64 (k : Int))) rfl (by kernel_rfl) (by kernel_rfl) (by kernel_rfl) (fun _ _ _ h => h) (Or.inl ⟨by rfl, ?_⟩) hHeld ?_
                · (intro w hSw; (try dsimp only at hSw); go_simp)
                walk_nrm
                refine wpAnyH_take (i := 6) (v := (.pointer (some ⟨gl, k * 7, none⟩))) rfl (by kernel_rfl) (by kernel_rfl) (by kernel_rfl) (fun _ _ _ h => h) (Or.inl ⟨by rfl, ?_⟩) hHeld ?_
                · (intro w hSw; (try dsimp only at hSw); go_simp)
                walk_nrm
                refine wpAnyH_take (i := 7) (v := (.pointer (some ⟨gl, k * 7 + 2, none⟩))) rfl (by kernel_rfl) (by kernel_rfl) (by kernel_rfl) (fun _ _ _ h => h) (Or.inl ⟨by rfl, ?_⟩) hHeld ?_
                · (intro w hSw; (try dsimp only at hSw); go_simp)
                walk_nrm
                refine wpAnyH_take (i := 8) (v := (.int .i64 a1)) rfl (by kernel_rfl) (by kernel_rfl) (by kernel_rfl) (fun _ _ _ h => h) (Or.inl ⟨by rfl, ?_⟩) hHeld ?_
                · (intro w hSw; (try dsimp only at hSw); go_simp)
                walk_nrm
                refine wpAnyH_take (i := 9) (v := (.pointer (some ⟨b6, 1, none⟩))) rfl (by kernel_rfl) (by kernel_rfl) (by kernel_rfl) (fun _ _ _ h => h) (Or.inl ⟨by rfl, ?_⟩) hHeld ?_
                · (intro w hSw; (try dsimp only at hSw); go_simp)
                walk_nrm
                refine wpAnyH_take (i := 10) (v := (.int .i64 d)) rfl (by kernel_rfl) (by kernel_rfl) (by kernel_rfl) (fun _ _ _ h => h) (Or.inl ⟨by rfl, ?_⟩) hHeld ?_
                · (intro w hSw; (try dsimp only at hSw); go_simp)
                walk_nrm
                refine wpAnyH_take (i := 11) (v := (.bool false)) rfl (by kernel_rfl) (by kernel_rfl) (by kernel_rfl) (fun _ _ _ h => h) (Or.inl ⟨by rfl, ?_⟩) hHeld ?_
                · (intro w hSw; (try dsimp only at hSw); go_simp)
                walk_nrm
                refine wpAnyH_take (i := 12) (v := (.bool false)) rfl (by kernel_rfl) (by kernel_rfl) (by kernel_rfl) (fun _ _ _ h => h) (Or.inl ⟨by rfl, ?_⟩) hHeld ?_
                · (intro w hSw; (try dsimp only at hSw); go_simp)
                walk_nrm
                refine wpAnyH_take (i := 13) (v := undef) rfl (by kernel_rfl) (by kernel_rfl) (by kernel_rfl) (fun _ _ _ h => h) (Or.inr ⟨by rfl, rfl⟩) hHeld ?_
                walk_nrm
                refine wpAnyH_take (i := 14) (v := undef) rfl (by kernel_rfl) (by kernel_rfl) (by kernel_rfl) (fun _ _ _ h => h) (Or.inr ⟨by rfl, rfl⟩) hHeld ?_
                walk_nrm
                refine wpAnyH_take (i := 15) (v := undef) rfl (by kernel_rfl) (by kernel_rfl) (by kernel_rfl) (fun _ _ _ h => h) (Or.inr ⟨by rfl, rfl⟩) hHeld ?_
                walk_nrm
                refine wpAnyH_take (i := 16) (v := undef) rfl (by kernel_rfl) (by kernel_rfl) (by kernel_rfl) (fun _ _ _ h => h) (Or.inr ⟨by rfl, rfl⟩) hHeld ?_
                walk_nrm
                refine wpAnyH_take (i := 17) (v := undef) rfl (by kernel_rfl) (by kernel_rfl) (by kernel_rfl) (fun _ _ _ h => h) (Or.inr ⟨by rfl, rfl⟩) hHeld ?_
                walk_nrm
                refine wpAnyH_take (i := 18) (v := undef) rfl (by kernel_rfl) (by kernel_rfl) (by kernel_rfl) (fun _ _ _ h => h) (Or.inr ⟨by rfl, rfl⟩) hHeld ?_
                walk_nrm
                refine wpAnyH_take (i := 19) (v := undef) rfl (by kernel_rfl) (by kernel_rfl) (by kernel_rfl) (fun _ _ _ h => h) (Or.inr ⟨by rfl, rfl⟩) hHeld ?_
                walk_nrm
                refine wpAnyH_take (i := 20) (v := undef) rfl (by kernel_rfl) (by kernel_rfl) (by kernel_rfl) (fun _ _ _ h => h) (Or.inr ⟨by rfl, rfl⟩) hHeld ?_
                walk_nrm
                refine wpAnyH_take (i := 21) (v := (.bool false)) rfl (by kernel_rfl) (by kernel_rfl) (by kernel_rfl) (fun _ _ _ h => h) (Or.inl ⟨by rfl, ?_⟩) hHeld ?_
                · (intro w hSw; (try dsimp only at hSw); go_simp)
                walk_nrm
                refine wpAnyH_take (i := 22) (v := (.bool false)) rfl (by kernel_rfl) (by kernel_rfl) (by kernel_rfl) (fun _ _ _ h => h) (Or.inl ⟨by rfl, ?_⟩) hHeld ?_
                · (intro w hSw; (try dsimp only at hSw); go_simp)
                walk_nrm
                refine wpAnyH_take (i := 23) (v := undef) rfl (by kernel_rfl) (by kernel_rfl) (by kernel_rfl) (fun _ _ _ h => h) (Or.inr ⟨by rfl, rfl⟩) hHeld ?_
                walk_nrm
                refine wpAnyH_take (i := 24) (v := undef) rfl (by kernel_rfl) (by kernel_rfl) (by kernel_rfl) (fun _ _ _ h => h) (Or.inr ⟨by rfl, rfl⟩) hHeld ?_
                walk_nrm
                refine wpAnyH_take (i := 25) (v := undef) rfl (by kernel_rfl) (by kernel_rfl) (by kernel_rfl) (fun _ _ _ h => h) (Or.inr ⟨by rfl, rfl⟩) hHeld ?_
                walk_nrm
                refine wpAnyH_take (i := 26) (v := undef) rfl (by kernel_rfl) (by kernel_rfl) (by kernel_rfl) (fun _ _ _ h => h) (Or.inr ⟨by rfl, rfl⟩) hHeld ?_
                walk_nrm
                refine wpAnyH_take (i := 27) (v := undef) rfl (by kernel_rfl) (by kernel_rfl) (by kernel_rfl) (fun _ _ _ h => h) (Or.inr ⟨by rfl, rfl⟩) hHeld ?_
                walk_nrm
                refine wpAnyH_take (i := 28) (v := undef) rfl (by kernel_rfl) (by kernel_rfl) (by kernel_rfl) (fun _ _ _ h => h) (Or.inr ⟨by rfl, rfl⟩) hHeld ?_
                walk_nrm
                refine wpAnyH_take (i := 29) (v := undef) rfl (by kernel_rfl) (by kernel_rfl) (by kernel_rfl) (fun _ _ _ h => h) (Or.inr ⟨by rfl, rfl⟩) hHeld ?_
                walk_nrm
                refine wpAnyH_take (i := 30) (v := undef) rfl (by kernel_rfl) (by kernel_rfl) (by kernel_rfl) (fun _ _ _ h => h) (Or.inr ⟨by rfl, rfl⟩) hHeld ?_
                walk_nrm
                refine wpAnyH_take (i := 31) (v := (.bool false)) rfl (by kernel_rfl) (by kernel_rfl) (by kernel_rfl) (fun _ _ _ h => h) (Or.inl ⟨by rfl, ?_⟩) hHeld ?_
                · (intro w hSw; (try dsimp only at hSw); go_simp)
                walk_nrm
                refine wpAnyH_take (i := 32) (v := (.bool false)) rfl (by kernel_rfl) (by kernel_rfl) (by kernel_rfl) (fun _ _ _ h => h) (Or.inl ⟨by rfl, ?_⟩) hHeld ?_
                · (intro w hSw; (try dsimp only at hSw); go_simp)
                walk_nrm
                refine wpAnyH_done (by kernel_rfl) ?_ _
                go_wp2_with fail
                go_meet
                exact ⟨rfl, HBa⟩
              · have hab : (a1 == d) = false := by simpa using ha
                have hac : (a1 != d) = true := by simp [ha]
                by_cases hb : b1 = d
                · obtain rfl : kb = false := by rw [← HKB.out]; exact decide_eq_false (fun h => h.elim h46 (fun h2 => h2.2.1 hb))
                  have hbb : (b1 == d) = true := by simpa using hb
                  have hbc : (b1 != d) = false := by simp [hb]
                  refine wp_region_held_drew (S := fun W' => W'.cell? ⟨b6, 0, none⟩ = some (.int .i64 op) ∧ W'.cell? ⟨b6, 1, none⟩ = some (.int .i64 d) ∧ W'.cell? ⟨b6, 2, none⟩ = some (.int .i64 a) ∧ W'.cell? ⟨b6, 3, none⟩ = some (.int .i64 b0) ∧ W'.cell? ⟨b6, 4, none⟩ = some (.int .i64 c0) ∧ W'.cell? ⟨b6, 5, none⟩ = some (.int .i64 nn) ∧ W'.cell? ⟨b6, 6, none⟩ = some (.string t) ∧ W'.cell? ⟨gl, k * 7 + 2, none⟩ = some (.int .i64 a1) ∧ W'.cell? ⟨gl, k * 7 + 3, none⟩ = some (.int .i64 b1) ∧ W'.cell? ⟨gl, k * 7 + 1, none⟩ = some (.int .i64 d1)) (by kernel_rfl) (SK.out _ (Below.refl _ _).drew) (fun hHeld => ?_)
                  refine wpAnyH_take (i := 0) (v := (.agg #[.int .i64 op, .int .i64 d, .int .i64 a, .int .i64 b0, .int .i64 c0, .int .i64 nn, .string t])) rfl (by kernel_rfl) (by kernel_rfl) (by kernel_rfl) (fun _ _ _ h => h) (Or.inl ⟨by rfl, ?_⟩) hHeld ?_
                  · (intro w hSw; (try dsimp only at hSw); go_simp)
                  walk_nrm
                  refine wpAnyH_ready (rs := [1]) (by kernel_rfl) (by simp) ?_
                  refine AllReadyH.cons rfl (fun K hK => ?_) AllReadyH.nil
                  go_simp
                  go_at_call 58
                  refine (DE.out _).mono ?_
                  rintro ea wa ⟨rfl, bela⟩
                  have HBa := hideP ((Below.refl wr.heap.size wr).drew.trans (bela.mono (Nat.le_refl _)))
                  clear bela
                  go_wp2_with fail
                  refine hK.out _ _ (SK.out _ HBa.out) (fun hHeld => ?_)
                  clear hK K
                  refine wpAnyH_take (i := 2) (v := (.bool false)) rfl (by kernel_rfl) (by kernel_rfl) (by kernel_rfl) (fun _ _ _ h => h) (Or.inl ⟨by rfl, ?_⟩) hHeld ?_
                  · (intro w hSw; (try dsimp only at hSw); go_simp)
                  walk_nrm
                  refine wpAnyH_take (i := 3) (v := (.bool false)) rfl (by kernel_rfl) (by kernel_rfl) (by kernel_rfl) (fun _ _ _ h => h) (Or.inl ⟨by rfl, ?_⟩) hHeld ?_
                  · (intro w hSw; (try dsimp only at hSw); go_simp)
                  walk_nrm
                  refine wpAnyH_take (i := 4) (v := (.slice (some ⟨gl, 0, none⟩) NL cl)) rfl (by kernel_rfl) (by kernel_rfl) (by kernel_rfl) (fun _ _ _ h => h) (Or.inl ⟨by rfl, ?_⟩) hHeld ?_
                  · (intro w hSw; (try dsimp only at hSw); go_simp)
                  walk_nrm
                  refine wpAnyH_take (i := 5) (v := (.int .i64 (k : Int))) rfl (by kernel_rfl) (by kernel_rfl) (by kernel_rfl) (fun _ _ _ h => h) (Or.inl ⟨by rfl, ?_⟩) hHeld ?_
                  · (intro w hSw; (try dsimp only at hSw); go_simp)
                  walk_nrm
                  refine wpAnyH_take (i := 6) (v := (.pointer (some ⟨gl, k * 7, none⟩))) rfl (by kernel_rfl) (by kernel_rfl) (by kernel_rfl) (fun _ _ _ h => h) (Or.inl ⟨by rfl, ?_⟩) hHeld ?_
                  · (intro w hSw; (try dsimp only at hSw); go_simp)
                  walk_nrm
                  refine wpAnyH_take (i := 7) (v := (.pointer (some ⟨gl, k * 7 + 2, none⟩))) rfl (by kernel_rfl) (by kernel_rfl) (by kernel_rfl) (fun _ _ _ h => h) (Or.inl ⟨by rfl, ?_⟩) hHeld ?_
                  · (intro w hSw; (try dsimp only at hSw); go_simp)
                  walk_nrm
                  refine wpAnyH_take (i := 8) (v := (.int .i64 a1)) rfl (by kernel_rfl) (by kernel_rfl) (by kernel_rfl) (fun _ _ _ h => h) (Or.inl ⟨by rfl, ?_⟩) hHeld ?_
                  · (intro w hSw; (try dsimp only at hSw); go_simp)
                  walk_nrm
                  refine wpAnyH_take (i := 9) (v := (.pointer (some ⟨b6, 1, none⟩))) rfl (by kernel_rfl) (by kernel_rfl) (by kernel_rfl) (fun _ _ _ h => h) (Or.inl ⟨by rfl, ?_⟩) hHeld ?_
                  · (intro w hSw; (try dsimp only at hSw); go_simp)
                  walk_nrm
                  refine wpAnyH_take (i := 10) (v := (.int .i64 d)) rfl (by kernel_rfl) (by kernel_rfl) (by kernel_rfl) (fun _ _ _ h => h) (Or.inl ⟨by rfl, ?_⟩) hHeld ?_
                  · (intro w hSw; (try dsimp only at hSw); go_simp)
                  walk_nrm
                  refine wpAnyH_take (i := 11) (v := (.bool true)) rfl (by kernel_rfl) (by kernel_rfl) (by kernel_rfl) (fun _ _ _ h => h) (Or.inl ⟨by rfl, ?_⟩) hHeld ?_
                  · (intro w hSw; (try dsimp only at hSw); go_simp)
                  walk_nrm
                  refine wpAnyH_take (i := 12) (v := (.bool true)) rfl (by kernel_rfl) (by kernel_rfl) (by kernel_rfl) (fun _ _ _ h => h) (Or.inl ⟨by rfl, ?_⟩) hHeld ?_
                  · (intro w hSw; (try dsimp only at hSw); go_simp)
                  walk_nrm
                  refine wpAnyH_take (i := 13) (v := (.slice (some ⟨gl, 0, none⟩) NL cl)) rfl (by kernel_rfl) (by kernel_rfl) (by kernel_rfl) (fun _ _ _ h => h) (Or.inl ⟨by rfl, ?_⟩) hHeld ?_
                  · (intro w hSw; (try dsimp only at hSw); go_simp)
                  walk_nrm
                  refine wpAnyH_take (i := 14) (v := (.int .i64 (k : Int))) rfl (by kernel_rfl) (by kernel_rfl) (by kernel_rfl) (fun _ _ _ h => h) (Or.inl ⟨by rfl, ?_⟩) hHeld ?_
                  · (intro w hSw; (try dsimp only at hSw); go_simp)
                  walk_nrm
                  refine wpAnyH_take (i := 15) (v := (.pointer (some ⟨gl, k * 7, none⟩))) rfl (by kernel_rfl) (by kernel_rfl) (by kernel_rfl) (fun _ _ _ h => h) (Or.inl ⟨by rfl, ?_⟩) hHeld ?_
                  · (intro w hSw; (try dsimp only at hSw); go_simp)
                  walk_nrm
                  refine wpAnyH_take (i := 16) (v := (.pointer (some ⟨gl, k * 7 + 3, none⟩))) rfl (by kernel_rfl) (by kernel_rfl) (by kernel_rfl) (fun _ _ _ h => h) (Or.inl ⟨by rfl, ?_⟩) hHeld ?_
                  · (intro w hSw; (try dsimp only at hSw); go_simp)
                  walk_nrm
                  refine wpAnyH_take (i := 17) (v := (.int .i64 b1)) rfl (by kernel_rfl) (by kernel_rfl) (by kernel_rfl) (fun _ _ _ h => h) (Or.inl ⟨by rfl, ?_⟩) hHeld ?_
                  · (intro w hSw; (try dsimp only at hSw); go_simp)
                  walk_nrm
                  refine wpAnyH_take (i := 18) (v := (.pointer (some ⟨b6, 1, none⟩))) rfl (by kernel_rfl) (by kernel_rfl) (by kernel_rfl) (fun _ _ _ h => h) (Or.inl ⟨by rfl, ?_⟩) hHeld ?_
                  · (intro w hSw; (try dsimp only at hSw); go_simp)
                  walk_nrm
                  refine wpAnyH_take (i := 19) (v := (.int .i64 d)) rfl (by kernel_rfl) (by kernel_rfl) (by kernel_rfl) (fun _ _ _ h => h) (Or.inl ⟨by rfl, ?_⟩) hHeld ?_
                  · (intro w hSw; (try dsimp only at hSw); go_simp)
                  walk_nrm
                  refine wpAnyH_take (i := 20) (v := (.bool false)) rfl (by kernel_rfl) (by kernel_rfl) (by kernel_rfl) (fun _ _ _ h => h) (Or.inl ⟨by rfl, ?_⟩) hHeld ?_
                  · (intro w hSw; (try dsimp only at hSw); go_simp)
                  walk_nrm
                  refine wpAnyH_take (i := 21) (v := (.bool false)) rfl (by kernel_rfl) (by kernel_rfl) (by kernel_rfl) (fun _ _ _ h => h) (Or.inl ⟨by rfl, ?_⟩) hHeld ?_
                  · (intro w hSw; (try dsimp only at hSw); go_simp)
                  walk_nrm
                  refine wpAnyH_take (i := 22) (v := (.bool false)) rfl (by kernel_rfl) (by kernel_rfl) (by kernel_rfl) (fun _ _ _ h => h) (Or.inl ⟨by rfl, ?_⟩) hHeld ?_
                  · (intro w hSw; (try dsimp only at hSw); go_simp)
                  walk_nrm
                  refine wpAnyH_take (i := 23) (v := undef) rfl (by kernel_rfl) (by kernel_rfl) (by kernel_rfl) (fun _ _ _ h => h) (Or.inr ⟨by rfl, rfl⟩) hHeld ?_
                  walk_nrm
                  refine wpAnyH_take (i := 24) (v := undef) rfl (by kernel_rfl) (by kernel_rfl) (by kernel_rfl) (fun _ _ _ h => h) (Or.inr ⟨by rfl, rfl⟩) hHeld ?_
                  walk_nrm
                  refine wpAnyH_take (i := 25) (v := undef) rfl (by kernel_rfl) (by kernel_rfl) (by kernel_rfl) (fun _ _ _ h => h) (Or.inr ⟨by rfl, rfl⟩) hHeld ?_
                  walk_nrm
                  refine wpAnyH_take (i := 26) (v := undef) rfl (by kernel_rfl) (by kernel_rfl) (by kernel_rfl) (fun _ _ _ h => h) (Or.inr ⟨by rfl, rfl⟩) hHeld ?_
                  walk_nrm
                  refine wpAnyH_take (i := 27) (v := undef) rfl (by kernel_rfl) (by kernel_rfl) (by kernel_rfl) (fun _ _ _ h => h) (Or.inr ⟨by rfl, rfl⟩) hHeld ?_
                  walk_nrm
                  refine wpAnyH_take (i := 28) (v := undef) rfl (by kernel_rfl) (by kernel_rfl) (by kernel_rfl) (fun _ _ _ h => h) (Or.inr ⟨by rfl, rfl⟩) hHeld ?_
                  walk_nrm
                  refine wpAnyH_take (i := 29) (v := undef) rfl (by kernel_rfl) (by kernel_rfl) (by kernel_rfl) (fun _ _ _ h => h) (Or.inr ⟨by rfl, rfl⟩) hHeld ?_
                  walk_nrm
                  refine wpAnyH_take (i := 30) (v := undef) rfl (by kernel_rfl) (by kernel_rfl) (by kernel_rfl) (fun _ _ _ h => h) (Or.inr ⟨by rfl, rfl⟩) hHeld ?_
                  walk_nrm
                  refine wpAnyH_take (i := 31) (v := (.bool false)) rfl (by kernel_rfl) (by kernel_rfl) (by kernel_rfl) (fun _ _ _ h => h) (Or.inl ⟨by rfl, ?_⟩) hHeld ?_
                  · (intro w hSw; (try dsimp only at hSw); go_simp)
                  walk_nrm
                  refine wpAnyH_take (i := 32) (v := (.bool false)) rfl (by kernel_rfl) (by kernel_rfl) (by kernel_rfl) (fun _ _ _ h => h) (Or.inl ⟨by rfl, ?_⟩) hHeld ?_
                  · (intro w hSw; (try dsimp only at hSw); go_simp)
                  walk_nrm
                  refine wpAnyH_done (by kernel_rfl) ?_ _
                  go_wp2_with fail
                  go_meet
                  exact ⟨rfl, HBa⟩
                · have hbb : (b1 == d) = false := by simpa using hb
                  have hbc : (b1 != d) = true := by simp [hb]
                  by_cases hd : d1 = d
                  · obtain rfl : kb = false := by rw [← HKB.out]; exact decide_eq_false (fun h => h.elim h46 (fun h2 => h2.2.2 hd))
                    have hdb : (d1 == d) = true := by simpa using hd
                    have hdc : (d1 != d) = false := by simp [hd]
                    refine wp_region_held_drew (S := fun W' => W'.cell? ⟨b6, 0, none⟩ = some (.int .i64 op) ∧ W'.cell? ⟨b6, 1, none⟩ = some (.int .i64 d) ∧ W'.cell? ⟨b6, 2, none⟩ = some (.int .i64 a) ∧ W'.cell? ⟨b6, 3, none⟩ = some (.int .i64 b0) ∧ W'.cell? ⟨b6, 4, none⟩ = some (.int .i64 c0) ∧ W'.cell? ⟨b6, 5, none⟩ = some (.int .i64 nn) ∧ W'.cell? ⟨b6, 6, none⟩ = some (.string t) ∧ W'.cell? ⟨gl, k * 7 + 2, none⟩ = some (.int .i64 a1) ∧ W'.cell? ⟨gl, k * 7 + 3, none⟩ = some (.int .i64 b1) ∧ W'.cell? ⟨gl, k * 7 + 1, none⟩ = some (.int .i64 d1)) (by kernel_rfl) (SK.out _ (Below.refl _ _).drew) (fun hHeld => ?_)
                    refine wpAnyH_take (i := 0) (v := (.agg #[.int .i64 op, .int .i64 d, .int .i64 a, .int .i64 b0, .int .i64 c0, .int .i64 nn, .string t])) rfl (by kernel_rfl) (by kernel_rfl) (by kernel_rfl) (fun _ _ _ h => h) (Or.inl ⟨by rfl, ?_⟩) hHeld ?_
                    · (intro w hSw; (try dsimp only at hSw); go_simp)
                    walk_nrm
                    refine wpAnyH_ready (rs := [1]) (by kernel_rfl) (by simp) ?_
                    refine AllReadyH.cons rfl (fun K hK => ?_) AllReadyH.nil
                    go_simp
                    go_at_call 58
                    refine (DE.out _).mono ?_
                    rintro ea wa ⟨rfl, bela⟩
                    have HBa := hideP ((Below.refl wr.heap.size wr).drew.trans (bela.mono (Nat.le_refl _)))
                    clear bela
                    go_wp2_with fail
                    refine hK.out _ _ (SK.out _ HBa.out) (fun hHeld => ?_)
                    clear hK K
                    refine wpAnyH_take (i := 2) (v := (.bool false)) rfl (by kernel_rfl) (by kernel_rfl) (by kernel_rfl) (fun _ _ _ h => h) (Or.inl ⟨by rfl, ?_⟩) hHeld ?_
                    · (intro w hSw; (try dsimp only at hSw); go_simp)
                    walk_nrm
                    refine wpAnyH_take (i := 3) (v := (.bool false)) rfl (by kernel_rfl) (by kernel_rfl) (by kernel_rfl) (fun _ _ _ h => h) (Or.inl ⟨by rfl, ?_⟩) hHeld ?_
                    · (intro w hSw; (try dsimp only at hSw); go_simp)
                    walk_nrm
                    refine wpAnyH_take (i := 4) (v := (.slice (some ⟨gl, 0, none⟩) NL cl)) rfl (by kernel_rfl) (by kernel_rfl) (by kernel_rfl) (fun _ _ _ h => h) (Or.inl ⟨by rfl, ?_⟩) hHeld ?_
                    · (intro w hSw; (try dsimp only at hSw); go_simp)
                    walk_nrm
                    refine wpAnyH_take (i := 5) (v := (.int .i64 (k : Int))) rfl (by kernel_rfl) (by kernel_rfl) (by kernel_rfl) (fun _ _ _ h => h) (Or.inl ⟨by rfl, ?_⟩) hHeld ?_
                    · (intro w hSw; (try dsimp only at hSw); go_simp)
                    walk_nrm
                    refine wpAnyH_take (i := 6) (v := (.pointer (some ⟨gl, k * 7, none⟩))) rfl (by kernel_rfl) (by kernel_rfl) (by kernel_rfl) (fun _ _ _ h => h) (Or.inl ⟨by rfl, ?_⟩) hHeld ?_
                    · (intro w hSw; (try dsimp only at hSw); go_simp)
                    walk_nrm
                    refine wpAnyH_take (i := 7) (v := (.pointer (some ⟨gl, k * 7 + 2, none⟩))) rfl (by kernel_rfl) (by kernel_rfl) (by kernel_rfl) (fun _ _ _ h => h) (Or.inl ⟨by rfl, ?_⟩) hHeld ?_
                    · (intro w hSw; (try dsimp only at hSw); go_simp)
                    walk_nrm
                    refine wpAnyH_take (i := 8) (v := (.int .i64 a1)) rfl (by kernel_rfl) (by kernel_rfl) (by kernel_rfl) (fun _ _ _ h => h) (Or.inl ⟨by rfl, ?_⟩) hHeld ?_
                    · (intro w hSw; (try dsimp only at hSw); go_simp)
                    walk_nrm
                    refine wpAnyH_take (i := 9) (v := (.pointer (some ⟨b6, 1, none⟩))) rfl (by kernel_rfl) (by kernel_rfl) (by kernel_rfl) (fun _ _ _ h => h) (Or.inl ⟨by rfl, ?_⟩) hHeld ?_
                    · (intro w hSw; (try dsimp only at hSw); go_simp)
                    walk_nrm
                    refine wpAnyH_take (i := 10) (v := (.int .i64 d)) rfl (by kernel_rfl) (by kernel_rfl) (by kernel_rfl) (fun _ _ _ h => h) (Or.inl ⟨by rfl, ?_⟩) hHeld ?_
                    · (intro w hSw; (try dsimp only at hSw); go_simp)
                    walk_nrm
                    refine wpAnyH_take (i := 11) (v := (.bool true)) rfl (by kernel_rfl) (by kernel_rfl) (by kernel_rfl) (fun _ _ _ h => h) (Or.inl ⟨by rfl, ?_⟩) hHeld ?_
                    · (intro w hSw; (try dsimp only at hSw); go_simp)
                    walk_nrm
                    refine wpAnyH_take (i := 12) (v := (.bool true)) rfl (by kernel_rfl) (by kernel_rfl) (by kernel_rfl) (fun _ _ _ h => h) (Or.inl ⟨by rfl, ?_⟩) hHeld ?_
                    · (intro w hSw; (try dsimp only at hSw); go_simp)
                    walk_nrm
                    refine wpAnyH_take (i := 13) (v := (.slice (some ⟨gl, 0, none⟩) NL cl)) rfl (by kernel_rfl) (by kernel_rfl) (by kernel_rfl) (fun _ _ _ h => h) (Or.inl ⟨by rfl, ?_⟩) hHeld ?_
                    · (intro w hSw; (try dsimp only at hSw); go_simp)
                    walk_nrm
                    refine wpAnyH_take (i := 14) (v := (.int .i64 (k : Int))) rfl (by kernel_rfl) (by kernel_rfl) (by kernel_rfl) (fun _ _ _ h => h) (Or.inl ⟨by rfl, ?_⟩) hHeld ?_
                    · (intro w hSw; (try dsimp only at hSw); go_simp)
                    walk_nrm
                    refine wpAnyH_take (i := 15) (v := (.pointer (some ⟨gl, k * 7, none⟩))) rfl (by kernel_rfl) (by kernel_rfl) (by kernel_rfl) (fun _ _ _ h => h) (Or.inl ⟨by rfl, ?_⟩) hHeld ?_
                    · (intro w hSw; (try dsimp only at hSw); go_simp)
                    walk_nrm
                    refine wpAnyH_take (i := 16) (v := (.pointer (some ⟨gl, k * 7 + 3, none⟩))) rfl (by kernel_rfl) (by kernel_rfl) (by kernel_rfl) (fun _ _ _ h => h) (Or.inl ⟨by rfl, ?_⟩) hHeld ?_
                    · (intro w hSw; (try dsimp only at hSw); go_simp)
                    walk_nrm
                    refine wpAnyH_take (i := 17) (v := (.int .i64 b1)) rfl (by kernel_rfl) (by kernel_rfl) (by kernel_rfl) (fun _ _ _ h => h) (Or.inl ⟨by rfl, ?_⟩) hHeld ?_
                    · (intro w hSw; (try dsimp only at hSw); go_simp)
                    walk_nrm
                    refine wpAnyH_take (i := 18) (v := (.pointer (some ⟨b6, 1, none⟩))) rfl (by kernel_rfl) (by kernel_rfl) (by kernel_rfl) (fun _ _ _ h => h) (Or.inl ⟨by rfl, ?_⟩) hHeld ?_
                    · (intro w hSw; (try dsimp only at hSw); go_simp)
                    walk_nrm
                    refine wpAnyH_take (i := 19) (v := (.int .i64 d)) rfl (by kernel_rfl) (by kernel_rfl) (by kernel_rfl) (fun _ _ _ h => h) (Or.inl ⟨by rfl, ?_⟩) hHeld ?_
                    · (intro w hSw; (try dsimp only at hSw); go_simp)
                    walk_nrm
                    refine wpAnyH_take (i := 20) (v := (.bool true)) rfl (by kernel_rfl) (by kernel_rfl) (by kernel_rfl) (fun _ _ _ h => h) (Or.inl ⟨by rfl, ?_⟩) hHeld ?_
                    · (intro w hSw; (try dsimp only at hSw); go_simp)
                    walk_nrm
                    refine wpAnyH_take (i := 21) (v := (.bool true)) rfl (by kernel_rfl) (by kernel_rfl) (by kernel_rfl) (fun _ _ _ h => h) (Or.inl ⟨by rfl, ?_⟩) hHeld ?_
                    · (intro w hSw; (try dsimp only at hSw); go_simp)
                    walk_nrm
                    refine wpAnyH_take (i := 22) (v := (.bool true)) rfl (by kernel_rfl) (by kernel_rfl) (by kernel_rfl) (fun _ _ _ h => h) (Or.inl ⟨by rfl, ?_⟩) hHeld ?_
                    · (intro w hSw; (try dsimp only at hSw); go_simp)
                    walk_nrm
                    refine wpAnyH_take (i := 23) (v := (.slice (some ⟨gl, 0, none⟩) NL cl)) rfl (by kernel_rfl) (by kernel_rfl) (by kernel_rfl) (fun _ _ _ h => h) (Or.inl ⟨by rfl, ?_⟩) hHeld ?_
                    · (intro w hSw; (try dsimp only at hSw); go_simp)
                    walk_nrm
                    refine wpAnyH_take (i := 24) (v := (.int .i64 (k : Int))) rfl (by kernel_rfl) (by kernel_rfl) (by kernel_rfl) (fun _ _ _ h => h) (Or.inl ⟨by rfl, ?_⟩) hHeld ?_
                    · (intro w hSw; (try dsimp only at hSw); go_simp)
                    walk_nrm
                    refine wpAnyH_take (i := 25) (v := (.pointer (some ⟨gl, k * 7, none⟩))) rfl (by kernel_rfl) (by kernel_rfl) (by kernel_rfl) (fun _ _ _ h => h) (Or.inl ⟨by rfl, ?_⟩) hHeld ?_
                    · (intro w hSw; (try dsimp only at hSw); go_simp)
                    walk_nrm
                    refine wpAnyH_take (i := 26) (v := (.pointer (some ⟨gl, k * 7 + 1, none⟩))) rfl (by kernel_rfl) (by kernel_rfl) (by kernel_rfl) (fun _ _ _ h => h) (Or.inl ⟨by rfl, ?_⟩) hHeld ?_
                    · (intro w hSw; (try dsimp only at hSw); go_simp)
                    walk_nrm
                    refine wpAnyH_take (i := 27) (v := (.int .i64 d1)) rfl (by kernel_rfl) (by kernel_rfl) (by kernel_rfl) (fun _ _ _ h => h) (Or.inl ⟨by rfl, ?_⟩) hHeld ?_
                    · (intro w hSw; (try dsimp only at hSw); go_simp)
                    walk_nrm
                    refine wpAnyH_take (i := 28) (v := (.pointer (some ⟨b6, 1, none⟩))) rfl (by kernel_rfl) (by kernel_rfl) (by kernel_rfl) (fun _ _ _ h => h) (Or.inl ⟨by rfl, ?_⟩) hHeld ?_
                    · (intro w hSw; (try dsimp only at hSw); go_simp)
                    walk_nrm
                    refine wpAnyH_take (i := 29) (v := (.int .i64 d)) rfl (by kernel_rfl) (by kernel_rfl) (by kernel_rfl) (fun _ _ _ h => h) (Or.inl ⟨by rfl, ?_⟩) hHeld ?_
                    · (intro w hSw; (try dsimp only at hSw); go_simp)
                    walk_nrm
                    refine wpAnyH_take (i := 30) (v := (.bool false)) rfl (by kernel_rfl) (by kernel_rfl) (by kernel_rfl) (fun _ _ _ h => h) (Or.inl ⟨by rfl, ?_⟩) hHeld ?_
                    · (intro w hSw; (try dsimp only at hSw); go_simp)
                    walk_nrm
                    refine wpAnyH_take (i := 31) (v := (.bool false)) rfl (by kernel_rfl) (by kernel_rfl) (by kernel_rfl) (fun _ _ _ h => h) (Or.inl ⟨by rfl, ?_⟩) hHeld ?_
                    · (intro w hSw; (try dsimp only at hSw); go_simp)
                    walk_nrm
                    refine wpAnyH_take (i := 32) (v := (.bool false)) rfl (by kernel_rfl) (by kernel_rfl) (by kernel_rfl) (fun _ _ _ h => h) (Or.inl ⟨by rfl, ?_⟩) hHeld ?_
                    · (intro w hSw; (try dsimp only at hSw); go_simp)
                    walk_nrm
                    refine wpAnyH_done (by kernel_rfl) ?_ _
                    go_wp2_with fail
                    go_meet
                    exact ⟨rfl, HBa⟩
                  · obtain rfl : kb = true := by rw [← HKB.out]; exact decide_eq_true (Or.inr ⟨ha, hb, hd⟩)
                    have hdb : (d1 == d) = false := by simpa using hd
                    have hdc : (d1 != d) = true := by simp [hd]
                    refine wp_region_held_drew (S := fun W' => W'.cell? ⟨b6, 0, none⟩ = some (.int .i64 op) ∧ W'.cell? ⟨b6, 1, none⟩ = some (.int .i64 d) ∧ W'.cell? ⟨b6, 2, none⟩ = some (.int .i64 a) ∧ W'.cell? ⟨b6, 3, none⟩ = some (.int .i64 b0) ∧ W'.cell? ⟨b6, 4, none⟩ = some (.int .i64 c0) ∧ W'.cell? ⟨b6, 5, none⟩ = some (.int .i64 nn) ∧ W'.cell? ⟨b6, 6, none⟩ = some (.string t) ∧ W'.cell? ⟨gl, k * 7 + 2, none⟩ = some (.int .i64 a1) ∧ W'.cell? ⟨gl, k * 7 + 3, none⟩ = some (.int .i64 b1) ∧ W'.cell? ⟨gl, k * 7 + 1, none⟩ = some (.int .i64 d1)) (by kernel_rfl) (SK.out _ (Below.refl _ _).drew) (fun hHeld => ?_)
                    refine wpAnyH_take (i := 0) (v := (.agg #[.int .i64 op, .int .i64 d, .int .i64 a, .int .i64 b0, .int .i64 c0, .int .i64 nn, .string t])) rfl (by kernel_rfl) (by kernel_rfl) (by kernel_rfl) (fun _ _ _ h => h) (Or.inl ⟨by rfl, ?_⟩) hHeld ?_
                    · (intro w hSw; (try dsimp only at hSw); go_simp)
                    walk_nrm
                    refine wpAnyH_ready (rs := [1]) (by kernel_rfl) (by simp) ?_
                    refine AllReadyH.cons rfl (fun K hK => ?_) AllReadyH.nil
                    go_simp
                    go_at_call 58
                    refine (DE.out _).mono ?_
                    rintro ea wa ⟨rfl, bela⟩
                    have HBa := hideP ((Below.refl wr.heap.size wr).drew.trans (bela.mono (Nat.le_refl _)))
                    clear bela
                    go_wp2_with fail
                    refine hK.out _ _ (SK.out _ HBa.out) (fun hHeld => ?_)
                    clear hK K
                    refine wpAnyH_take (i := 2) (v := (.bool false)) rfl (by kernel_rfl) (by kernel_rfl) (by kernel_rfl) (fun _ _ _ h => h) (Or.inl ⟨by rfl, ?_⟩) hHeld ?_
                    · (intro w hSw; (try dsimp only at hSw); go_simp)
                    walk_nrm
                    refine wpAnyH_take (i := 3) (v := (.bool false)) rfl (by kernel_rfl) (by kernel_rfl) (by kernel_rfl) (fun _ _ _ h => h) (Or.inl ⟨by rfl, ?_⟩) hHeld ?_
                    · (intro w hSw; (try dsimp only at hSw); go_simp)
                    walk_nrm
                    refine wpAnyH_take (i := 4) (v := (.slice (some ⟨gl, 0, none⟩) NL cl)) rfl (by kernel_rfl) (by kernel_rfl) (by kernel_rfl) (fun _ _ _ h => h) (Or.inl ⟨by rfl, ?_⟩) hHeld ?_
                    · (intro w hSw; (try dsimp only at hSw); go_simp)
                    walk_nrm
                    refine wpAnyH_take (i := 5) (v := (.int .i64 (k : Int))) rfl (by kernel_rfl) (by kernel_rfl) (by kernel_rfl) (fun _ _ _ h => h) (Or.inl ⟨by rfl, ?_⟩) hHeld ?_
                    · (intro w hSw; (try dsimp only at hSw); go_simp)
                    walk_nrm
                    refine wpAnyH_take (i := 6) (v := (.pointer (some ⟨gl, k * 7, none⟩))) rfl (by kernel_rfl) (by kernel_rfl) (by kernel_rfl) (fun _ _ _ h => h) (Or.inl ⟨by rfl, ?_⟩) hHeld ?_
                    · (intro w hSw; (try dsimp only at hSw); go_simp)
                    walk_nrm
                    refine wpAnyH_take (i := 7) (v := (.pointer (some ⟨gl, k * 7 + 2, none⟩))) rfl (by kernel_rfl) (by kernel_rfl) (by kernel_rfl) (fun _ _ _ h => h) (Or.inl ⟨by rfl, ?_⟩) hHeld ?_
                    · (intro w hSw; (try dsimp only at hSw); go_simp)
                    walk_nrm
                    refine wpAnyH_take (i := 8) (v := (.int .i64 a1)) rfl (by kernel_rfl) (by kernel_rfl) (by kernel_rfl) (fun _ _ _ h => h) (Or.inl ⟨by rfl, ?_⟩) hHeld ?_
                    · (intro w hSw; (try dsimp only at hSw); go_simp)
                    walk_nrm
                    refine wpAnyH_take (i := 9) (v := (.pointer (some ⟨b6, 1, none⟩))) rfl (by kernel_rfl) (by kernel_rfl) (by kernel_rfl) (fun _ _ _ h => h) (Or.inl ⟨by rfl, ?_⟩) hHeld ?_
                    · (intro w hSw; (try dsimp only at hSw); go_simp)
                    walk_nrm
                    refine wpAnyH_take (i := 10) (v := (.int .i64 d)) rfl (by kernel_rfl) (by kernel_rfl) (by kernel_rfl) (fun _ _ _ h => h) (Or.inl ⟨by rfl, ?_⟩) hHeld ?_
                    · (intro w hSw; (try dsimp only at hSw); go_simp)
                    walk_nrm
                    refine wpAnyH_take (i := 11) (v := (.bool true)) rfl (by kernel_rfl) (by kernel_rfl) (by kernel_rfl) (fun _ _ _ h => h) (Or.inl ⟨by rfl, ?_⟩) hHeld ?_
                    · (intro w hSw; (try dsimp only at hSw); go_simp)
                    walk_nrm
                    refine wpAnyH_take (i := 12) (v := (.bool true)) rfl (by kernel_rfl) (by kernel_rfl) (by kernel_rfl) (fun _ _ _ h => h) (Or.inl ⟨by rfl, ?_⟩) hHeld ?_
                    · (intro w hSw; (try dsimp only at hSw); go_simp)
                    walk_nrm
                    refine wpAnyH_take (i := 13) (v := (.slice (some ⟨gl, 0, none⟩) NL cl)) rfl (by kernel_rfl) (by kernel_rfl) (by kernel_rfl) (fun _ _ _ h => h) (Or.inl ⟨by rfl, ?_⟩) hHeld ?_
                    · (intro w hSw; (try dsimp only at hSw); go_simp)
                    walk_nrm
                    refine wpAnyH_take (i := 14) (v := (.int .i64 (k : Int))) rfl (by kernel_rfl) (by kernel_rfl) (by kernel_rfl) (fun _ _ _ h => h) (Or.inl ⟨by rfl, ?_⟩) hHeld ?_
                    · (intro w hSw; (try dsimp only at hSw); go_simp)
                    walk_nrm
                    refine wpAnyH_take (i := 15) (v := (.pointer (some ⟨gl, k * 7, none⟩))) rfl (by kernel_rfl) (by kernel_rfl) (by kernel_rfl) (fun _ _ _ h => h) (Or.inl ⟨by rfl, ?_⟩) hHeld ?_
                    · (intro w hSw; (try dsimp only at hSw); go_simp)
                    walk_nrm
                    refine wpAnyH_take (i := 16) (v := (.pointer (some ⟨gl, k * 7 + 3, none⟩))) rfl (by kernel_rfl) (by kernel_rfl) (by kernel_rfl) (fun _ _ _ h => h) (Or.inl ⟨by rfl, ?_⟩) hHeld ?_
                    · (intro w hSw; (try dsimp only at hSw); go_simp)
                    walk_nrm
                    refine wpAnyH_take (i := 17) (v := (.int .i64 b1)) rfl (by kernel_rfl) (by kernel_rfl) (by kernel_rfl) (fun _ _ _ h => h) (Or.inl ⟨by rfl, ?_⟩) hHeld ?_
                    · (intro w hSw; (try dsimp only at hSw); go_simp)
                    walk_nrm
                    refine wpAnyH_take (i := 18) (v := (.pointer (some ⟨b6, 1, none⟩))) rfl (by kernel_rfl) (by kernel_rfl) (by kernel_rfl) (fun _ _ _ h => h) (Or.inl ⟨by rfl, ?_⟩) hHeld ?_
                    · (intro w hSw; (try dsimp only at hSw); go_simp)
                    walk_nrm
                    refine wpAnyH_take (i := 19) (v := (.int .i64 d)) rfl (by kernel_rfl) (by kernel_rfl) (by kernel_rfl) (fun _ _ _ h => h) (Or.inl ⟨by rfl, ?_⟩) hHeld ?_
                    · (intro w hSw; (try dsimp only at hSw); go_simp)
                    walk_nrm
                    refine wpAnyH_take (i := 20) (v := (.bool true)) rfl (by kernel_rfl) (by kernel_rfl) (by kernel_rfl) (fun _ _ _ h => h) (Or.inl ⟨by rfl, ?_⟩) hHeld ?_
                    · (intro w hSw; (try dsimp only at hSw); go_simp)
                    walk_nrm
                    refine wpAnyH_take (i := 21) (v := (.bool true)) rfl (by kernel_rfl) (by kernel_rfl) (by kernel_rfl) (fun _ _ _ h => h) (Or.inl ⟨by rfl, ?_⟩) hHeld ?_
                    · (intro w hSw; (try dsimp only at hSw); go_simp)
                    walk_nrm
                    refine wpAnyH_take (i := 22) (v := (.bool true)) rfl (by kernel_rfl) (by kernel_rfl) (by kernel_rfl) (fun _ _ _ h => h) (Or.inl ⟨by rfl, ?_⟩) hHeld ?_
                    · (intro w hSw; (try dsimp only at hSw); go_simp)
                    walk_nrm
                    refine wpAnyH_take (i := 23) (v := (.slice (some ⟨gl, 0, none⟩) NL cl)) rfl (by kernel_rfl) (by kernel_rfl) (by kernel_rfl) (fun _ _ _ h => h) (Or.inl ⟨by rfl, ?_⟩) hHeld ?_
                    · (intro w hSw; (try dsimp only at hSw); go_simp)
                    walk_nrm
                    refine wpAnyH_take (i := 24) (v := (.int .i64 (k : Int))) rfl (by kernel_rfl) (by kernel_rfl) (by kernel_rfl) (fun _ _ _ h => h) (Or.inl ⟨by rfl, ?_⟩) hHeld ?_
                    · (intro w hSw; (try dsimp only at hSw); go_simp)
                    walk_nrm
                    refine wpAnyH_take (i := 25) (v := (.pointer (some ⟨gl, k * 7, none⟩))) rfl (by kernel_rfl) (by kernel_rfl) (by kernel_rfl) (fun _ _ _ h => h) (Or.inl ⟨by rfl, ?_⟩) hHeld ?_
                    · (intro w hSw; (try dsimp only at hSw); go_simp)
                    walk_nrm
                    refine wpAnyH_take (i := 26) (v := (.pointer (some ⟨gl, k * 7 + 1, none⟩))) rfl (by kernel_rfl) (by kernel_rfl) (by kernel_rfl) (fun _ _ _ h => h) (Or.inl ⟨by rfl, ?_⟩) hHeld ?_
                    · (intro w hSw; (try dsimp only at hSw); go_simp)
                    walk_nrm
                    refine wpAnyH_take (i := 27) (v := (.int .i64 d1)) rfl (by kernel_rfl) (by kernel_rfl) (by kernel_rfl) (fun _ _ _ h => h) (Or.inl ⟨by rfl, ?_⟩) hHeld ?_
                    · (intro w hSw; (try dsimp only at hSw); go_simp)
                    walk_nrm
                    refine wpAnyH_take (i := 28) (v := (.pointer (some ⟨b6, 1, none⟩))) rfl (by kernel_rfl) (by kernel_rfl) (by kernel_rfl) (fun _ _ _ h => h) (Or.inl ⟨by rfl, ?_⟩) hHeld ?_
                    · (intro w hSw; (try dsimp only at hSw); go_simp)
                    walk_nrm
                    refine wpAnyH_take (i := 29) (v := (.int .i64 d)) rfl (by kernel_rfl) (by kernel_rfl) (by kernel_rfl) (fun _ _ _ h => h) (Or.inl ⟨by rfl, ?_⟩) hHeld ?_
                    · (intro w hSw; (try dsimp only at hSw); go_simp)
                    walk_nrm
                    refine wpAnyH_take (i := 30) (v := (.bool true)) rfl (by kernel_rfl) (by kernel_rfl) (by kernel_rfl) (fun _ _ _ h => h) (Or.inl ⟨by rfl, ?_⟩) hHeld ?_
                    · (intro w hSw; (try dsimp only at hSw); go_simp)
                    walk_nrm
                    refine wpAnyH_take (i := 31) (v := (.bool true)) rfl (by kernel_rfl) (by kernel_rfl) (by kernel_rfl) (fun _ _ _ h => h) (Or.inl ⟨by rfl, ?_⟩) hHeld ?_
                    · (intro w hSw; (try dsimp only at hSw); go_simp)
                    walk_nrm
                    refine wpAnyH_take (i := 32) (v := (.bool true)) rfl (by kernel_rfl) (by kernel_rfl) (by kernel_rfl) (fun _ _ _ h => h) (Or.inl ⟨by rfl, ?_⟩) hHeld ?_
                    · (intro w hSw; (try dsimp only at hSw); go_simp)
                    walk_nrm
                    refine wpAnyH_done (by kernel_rfl) ?_ _
                    go_wp2_with fail
                    go_meet
                    exact ⟨rfl, HBa⟩
          case rest =>
          obtain ⟨rfl, hc⟩ := hcut
          obtain ⟨w5, rfl⟩ : ∃ q, q = wc := ⟨_, rfl⟩
          have I5 := hideP (hI.out.stays hc.out)
          clear hI hc SK DE HDF
          cases kb with
          | false =>
            have E2 : Hid (keptUp L (⟨op, d, a, b0, c0, nn, t⟩ : Ins) (k + 1) = Kx) := by show _ = _; rw [UPK.out, if_neg (of_decide_eq_false HKB.out), List.append_nil]
            clear UPK HKB
            go_wp2
            go_roundg (NL - (k + 1))
            case rel => exact ⟨k + 1, by omega, by go_num, by show KbAt _ _ _ _ _ _ _ _ _ _ _ _; rw [E2.out]; exact I5.out⟩
            case measure => omega
          | true =>
            have E2 : Hid (keptUp L (⟨op, d, a, b0, c0, nn, t⟩ : Ins) (k + 1) = Kx ++ [⟨op1, d1, a1, b1, c1, m1, t1⟩]) := by show _ = _; rw [UPK.out, if_pos (of_decide_eq_true HKB.out)]
            clear UPK HKB

            obtain ⟨op2, d2, a2, b2, c2, m2, t2, hz, q0, q1, q2, q3, q4, q5, q6⟩ := own_ins I5.out.lst k hkL
            have heq := HZ.out.symm.trans hz
            simp only [Ins.mk.injEq] at heq
            obtain ⟨rfl, rfl, rfl, rfl, rfl, rfl, rfl⟩ := heq
            have al := (Below.refl w5.heap.size w5).alloc (Nat.le_refl _) (.cells #[.int .i64 op1, .int .i64 d1, .int .i64 a1, .int .i64 b1, .int .i64 c1, .int .i64 m1, .string t1] 48)
            have OA := hideP (I5.out.kpt.stays al)
            have AL := hideP al
            have CQ : Hid (∀ r, r < InE.sz → (w5.alloc (.cells #[.int .i64 op1, .int .i64 d1, .int .i64 a1, .int .i64 b1, .int .i64 c1, .int .i64 m1, .string t1] 48)).cell? ⟨w5.heap.size, 0 + r, none⟩ = (InE.cs (⟨op1, d1, a1, b1, c1, m1, t1⟩ : Ins))[r]?) := fun r _ => by
              have := (cells_of (newI w5 #[.int .i64 op1, .int .i64 d1, .int .i64 a1, .int .i64 b1, .int .i64 c1, .int .i64 m1, .string t1])).1 r
              rw [Nat.zero_add, this]; simp [InE]
            have hsz1 : Hid (w.heap.size ≤ (w5.alloc (.cells #[.int .i64 op1, .int .i64 d1, .int .i64 a1, .int .i64 b1, .int .i64 c1, .int .i64 m1, .string t1] 48)).heap.size) := Nat.le_trans I5.out.bel.size al.size
            clear al hz HZ
            go_wp2_with (at_builtin; refine list_appE InOk _ rfl _ _ rfl w.heap.size _ Kx (⟨op1, d1, a1, b1, c1, m1, t1⟩ : Ins) w5.heap.size 0 1 rfl rfl OA.out CQ.out (by omega) hsz1.out ?_; intro v7 w7 o7 grow7 loc7)
            have S7 := hideP (I5.out.app AL.out o7 grow7 loc7)
            obtain ⟨g7, c7, rfl, _⟩ := id o7
            clear o7 grow7 loc7 OA CQ AL q0 q1 q2 q3 q4 q5 q6 hsz1
            go_wp2
            go_roundg (NL - (k + 1))
            case rel =>
              refine ⟨k + 1, by omega, by go_num, ?_⟩
              show KbAt _ _ _ _ _ _ _ _ _ _ _ _
              rw [E2.out]
              exact S7.out
            case measure => omega
        · have hkn : k = L.length := by rw [HNL.out]; omega
          obtain ⟨Kx, hKx⟩ : ∃ Kx, keptX L (⟨op, d, a, b0, c0, nn, t⟩ : Ins) = Kx := ⟨_, rfl⟩
          have e1 : keptUp L (⟨op, d, a, b0, c0, nn, t⟩ : Ins) k = Kx := by rw [← hKx, hkn]; unfold keptUp; rw [List.take_length]
          have hKn : Kx.length ≤ 1000 := by rw [← e1]; have := keptUp_few L (⟨op, d, a, b0, c0, nn, t⟩ : Ins) k; omega
          have TK : Hid (twK L (⟨op, d, a, b0, c0, nn, t⟩ : Ins) = Kx ++ (if op = 2 ∧ d ≠ a ∧ d ≠ b0 then [(⟨op, d, a, b0, c0, nn, t⟩ : Ins)] else [])) := by show _ = _; rw [← hKx]; rfl
          rw [e1] at hI
          clear e1 hKx hkn
          obtain ⟨gv, cv, rfl, _⟩ := id hI.out.kpt
          obtain ⟨yo, yd, ya, yb, yc, yn, yt⟩ := Y
          simp only [insV] at hI
          obtain ⟨cb, hcb⟩ : ∃ cb, decide (op = 2 ∧ d ≠ a ∧ d ≠ b0) = cb := ⟨_, rfl⟩
          have HCB := hideP hcb
          have fc := (cells_of hI.out.x6).1
          have y0 := fc 0
          have y1 := fc 1
          have y2 := fc 2
          have y3 := fc 3
          have y4 := fc 4
          have y5 := fc 5
          have y6 := fc 6
          simp at y0 y1 y2 y3 y4 y5 y6
          clear fc
          go_upto_region 19 with fail
          go_cut [103] from 13 to 112 (fun s103 wx => s103 = .bool cb ∧ wx = wr)
          case first =>
            by_cases h2 : op = 2
            · subst h2
              by_cases h3 : d = a
              · subst h3
                obtain rfl : cb = false := by rw [← hcb]; simp
                go_wp2
                go_meet
                exact ⟨rfl, rfl⟩
              · have h3b : (d == a) = false := by simpa using h3
                by_cases h4 : d = b0
                · subst h4
                  obtain rfl : cb = false := by rw [← hcb]; simp
                  go_wp2
                  go_meet
                  exact ⟨rfl, rfl⟩
                · have h4b : (d == b0) = false := by simpa using h4
                  obtain rfl : cb = true := by rw [← hcb]; simp [h3, h4]
                  go_wp2
                  go_meet
                  exact ⟨by simp [h3, h4], rfl⟩
            · have h2b : (op == 2) = false := by simpa using h2
              obtain rfl : cb = false := by rw [← hcb]; simp [h2]
              go_wp2
              go_meet
              exact ⟨rfl, rfl⟩
          case rest =>
          obtain ⟨rfl, rfl⟩ := hcut
          clear hcb
          cases cb with
          | false =>
            have E2 : Hid (twK L (⟨op, d, a, b0, c0, nn, t⟩ : Ins) = Kx) := by show _ = _; rw [TK.out, if_neg (of_decide_eq_false HCB.out), List.append_nil]
            clear TK HCB y0 y1 y2 y3 y4 y5 y6
            have S8 := hideP hI.out
            have fc := (cells_of S8.out.x8).1
            have f0 := fc 0
            have f1 := fc 1
            have f2 := fc 2
            have f3 := fc 3
            have f4 := fc 4
            have f5 := fc 5
            have f6 := fc 6
            simp at f0 f1 f2 f3 f4 f5 f6
            clear fc
            have al := (Below.refl wc.heap.size wc).alloc (Nat.le_refl _) (.cells #[.int .i64 yo, .int .i64 yd, .int .i64 ya, .int .i64 yb, .int .i64 yc, .int .i64 yn, .string yt] 48)
            have OA := hideP (S8.out.out.stays al)
            have AL := hideP al
            have CQ : Hid (∀ r, r < InE.sz → (wc.alloc (.cells #[.int .i64 yo, .int .i64 yd, .int .i64 ya, .int .i64 yb, .int .i64 yc, .int .i64 yn, .string yt] 48)).cell? ⟨wc.heap.size, 0 + r, none⟩ = (InE.cs (⟨yo, yd, ya, yb, yc, yn, yt⟩ : Ins))[r]?) := fun r _ => by
              have := (cells_of (newI wc #[.int .i64 yo, .int .i64 yd, .int .i64 ya, .int .i64 yb, .int .i64 yc, .int .i64 yn, .string yt])).1 r
              rw [Nat.zero_add, this]; simp [InE]
            have hsz1 : Hid (w.heap.size ≤ (wc.alloc (.cells #[.int .i64 yo, .int .i64 yd, .int .i64 ya, .int .i64 yb, .int .i64 yc, .int .i64 yn, .string yt] 48)).heap.size) := Nat.le_trans S8.out.bel.size al.size
            clear al
            go_wp2_with (at_builtin; refine list_appE InOk _ rfl _ _ rfl w.heap.size _ O (⟨yo, yd, ya, yb, yc, yn, yt⟩ : Ins) wc.heap.size 0 1 rfl rfl OA.out CQ.out (by omega) hsz1.out ?_; intro v9 w9 o9 grow9 loc9)
            have S9 := hideP (S8.out.close AL.out o9 grow9 loc9)
            obtain ⟨g9, c9, rfl, _⟩ := id o9
            clear o9 grow9 loc9 OA CQ AL f0 f1 f2 f3 f4 f5 f6 hsz1 S8
            go_wp2
            go_roundg (N - (j + 1))
            case rel =>
              refine ⟨j + 1, by omega, by go_num, ?_⟩
              show TbAt _ _ _ _ _ _
              rw [UP.out, E2.out]
              have s9 := S9.out
              simp only [List.length_append, List.length_singleton] at s9 ⊢
              exact s9
            case measure => omega
          | true =>
            have E2 : Hid (twK L (⟨op, d, a, b0, c0, nn, t⟩ : Ins) = Kx ++ [(⟨op, d, a, b0, c0, nn, t⟩ : Ins)]) := by show _ = _; rw [TK.out, if_pos (of_decide_eq_true HCB.out)]
            clear TK HCB
            have al := (Below.refl wc.heap.size wc).alloc (Nat.le_refl _) (.cells #[.int .i64 op, .int .i64 d, .int .i64 a, .int .i64 b0, .int .i64 c0, .int .i64 nn, .string t] 48)
            have OA := hideP (hI.out.kpt.stays al)
            have AL := hideP al
            have CQ : Hid (∀ r, r < InE.sz → (wc.alloc (.cells #[.int .i64 op, .int .i64 d, .int .i64 a, .int .i64 b0, .int .i64 c0, .int .i64 nn, .string t] 48)).cell? ⟨wc.heap.size, 0 + r, none⟩ = (InE.cs (⟨op, d, a, b0, c0, nn, t⟩ : Ins))[r]?) := fun r _ => by
              have := (cells_of (newI wc #[.int .i64 op, .int .i64 d, .int .i64 a, .int .i64 b0, .int .i64 c0, .int .i64 nn, .string t])).1 r
              rw [Nat.zero_add, this]; simp [InE]
            have hsz1 : Hid (w.heap.size ≤ (wc.alloc (.cells #[.int .i64 op, .int .i64 d, .int .i64 a, .int .i64 b0, .int .i64 c0, .int .i64 nn, .string t] 48)).heap.size) := Nat.le_trans hI.out.bel.size al.size
            clear al
            go_upto_region 21 with (at_builtin; refine list_appE InOk _ rfl _ _ rfl w.heap.size _ Kx (⟨op, d, a, b0, c0, nn, t⟩ : Ins) wc.heap.size 0 1 rfl rfl OA.out CQ.out (by omega) hsz1.out ?_; intro v8 w8 o8 grow8 loc8)
            have S8 := hideP (hI.out.app AL.out o8 grow8 loc8)
            obtain ⟨g8, c8, rfl, _⟩ := id o8
            clear o8 grow8 loc8 OA CQ AL y0 y1 y2 y3 y4 y5 y6 hsz1
            have fc := (cells_of S8.out.x8).1
            have f0 := fc 0
            have f1 := fc 1
            have f2 := fc 2
            have f3 := fc 3
            have f4 := fc 4
            have f5 := fc 5
            have f6 := fc 6
            simp at f0 f1 f2 f3 f4 f5 f6
            clear fc
            have al := (Below.refl w8.heap.size w8).alloc (Nat.le_refl _) (.cells #[.int .i64 yo, .int .i64 yd, .int .i64 ya, .int .i64 yb, .int .i64 yc, .int .i64 yn, .string yt] 48)
            have OA := hideP (S8.out.out.stays al)
            have AL := hideP al
            have CQ : Hid (∀ r, r < InE.sz → (w8.alloc (.cells #[.int .i64 yo, .int .i64 yd, .int .i64 ya, .int .i64 yb, .int .i64 yc, .int .i64 yn, .string yt] 48)).cell? ⟨w8.heap.size, 0 + r, none⟩ = (InE.cs (⟨yo, yd, ya, yb, yc, yn, yt⟩ : Ins))[r]?) := fun r _ => by
              have := (cells_of (newI w8 #[.int .i64 yo, .int .i64 yd, .int .i64 ya, .int .i64 yb, .int .i64 yc, .int .i64 yn, .string yt])).1 r
              rw [Nat.zero_add, this]; simp [InE]
            have hsz1 : Hid (w.heap.size ≤ (w8.alloc (.cells #[.int .i64 yo, .int .i64 yd, .int .i64 ya, .int .i64 yb, .int .i64 yc, .int .i64 yn, .string yt] 48)).heap.size) := Nat.le_trans S8.out.bel.size al.size
            clear al
            go_wp2_with (at_builtin; refine list_appE InOk _ rfl _ _ rfl w.heap.size _ O (⟨yo, yd, ya, yb, yc, yn, yt⟩ : Ins) w8.heap.size 0 1 rfl rfl OA.out CQ.out (by omega) hsz1.out ?_; intro v9 w9 o9 grow9 loc9)
            have S9 := hideP (S8.out.close AL.out o9 grow9 loc9)
            obtain ⟨g9, c9, rfl, _⟩ := id o9
            clear o9 grow9 loc9 OA CQ AL f0 f1 f2 f3 f4 f5 f6 hsz1 S8
            go_wp2
            go_roundg (N - (j + 1))
            case rel =>
              refine ⟨j + 1, by omega, by go_num, ?_⟩
              show TbAt _ _ _ _ _ _
              rw [UP.out, E2.out]
              have s9 := S9.out
              simp only [List.length_append, List.length_singleton] at s9 ⊢
              exact s9
            case measure => omega
    · have hjn : j = N := by omega
      subst hjn
      have EQ : Hid ((scanUp twF [] code j).2 = (twUp code).2) := by show _ = _; unfold twUp; rw [HN.out]
      rw [EQ.out] at hS
      go_wp2
      go_ret
      exact ⟨_, rfl, hS.out.out, hS.out.bel⟩
end Go.Proofs.Ytjmclmbepnbeoaa
