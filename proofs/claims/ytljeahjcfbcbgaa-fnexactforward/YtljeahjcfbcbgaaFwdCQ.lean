/- The contract of impl.forwardCode. -/
import Derived.Test.YtljeahjcfbcbgaaFwdPA
import Derived.Test.YtljeahjcfbcbgaaAliB
import Derived.Deep.LoopGhost
import Derived.Test.YtljeahjcfbcbgaaMksAll
namespace Go.Proofs.Ytljeahjcfbcbgaa
open Go.ChangeShapes Go.WideShapes Go.ChangeAt Go.RowKit Go.Maps
/-- A step's cells, one by one. -/
def insF (y : Ins) : Nat → Value
  | 0 => .int .i64 y.op
  | 1 => .int .i64 y.d
  | 2 => .int .i64 y.a
  | 3 => .int .i64 y.b
  | 4 => .int .i64 y.c
  | 5 => .int .i64 y.n
  | _ => .string y.t
theorem insF_at (y : Ins) : ∀ r, r < 7 → (insV y)[r]? = some (insF y r)
  | 0, _ => rfl
  | 1, _ => rfl
  | 2, _ => rfl
  | 3, _ => rfl
  | 4, _ => rfl
  | 5, _ => rfl
  | 6, _ => rfl
/-- Block g begins with n rows of seven cells. -/
def RowF (w : World) (g o n : Nat) (f : Nat → Nat → Value) : Prop := ∃ cur T, w.heap[g]? = some (.cells cur T (0, 0)) ∧ o + n * 7 ≤ cur.size ∧ ∀ k, k < n → ∀ r, r < 7 → cur[o + k * 7 + r]? = some (f k r)
theorem RowF.lt {w : World} {g o n : Nat} {f : Nat → Nat → Value} (h : RowF w g o n f) : g < w.heap.size := let ⟨_, _, h1, _⟩ := h; hltP h1
theorem RowF.keep {w w' : World} {g o n : Nat} {f : Nat → Nat → Value} (h : RowF w g o n f) (hk : w'.heap[g]? = w.heap[g]?) : RowF w' g o n f := let ⟨c, T, h1, h2⟩ := h; ⟨c, T, hk.trans h1, h2⟩
theorem RowF.congr {w : World} {g o n : Nat} {f f' : Nat → Nat → Value} (h : RowF w g o n f) (e : ∀ k, k < n → ∀ r, r < 7 → f k r = f' k r) : RowF w g o n f' := let ⟨c, T, h1, h2, h3⟩ := h; ⟨c, T, h1, h2, fun k hk r hr => by rw [h3 k hk r hr, e k hk r hr]⟩
theorem RowF.at {w : World} {g o n : Nat} {f : Nat → Nat → Value} (h : RowF w g o n f) {k r : Nat} (hk : k < n) (hr : r < 7) : w.cell? ⟨g, o + k * 7 + r, none⟩ = some (f k r) ∧ ∀ i, w.frozen? ⟨g, i, none⟩ = false := by
  obtain ⟨c, T, h1, h2, h3⟩ := h
  exact ⟨by simp only [World.cell?, h1]; exact h3 k hk r hr, (cells_of h1).2⟩
theorem RowF.seen {w : World} {g o n : Nat} {f : Nat → Nat → Value} (h : RowF w g o n f) {k : Nat} (hk : k < n) : ∃ u0 u1 u2 u3 u4 u5 u6, w.cell? ⟨g, o + k * 7, none⟩ = some u0 ∧ w.cell? ⟨g, o + k * 7 + 1, none⟩ = some u1 ∧ w.cell? ⟨g, o + k * 7 + 2, none⟩ = some u2 ∧ w.cell? ⟨g, o + k * 7 + 3, none⟩ = some u3 ∧ w.cell? ⟨g, o + k * 7 + 4, none⟩ = some u4 ∧ w.cell? ⟨g, o + k * 7 + 5, none⟩ = some u5 ∧ w.cell? ⟨g, o + k * 7 + 6, none⟩ = some u6 ∧ ∀ i, w.frozen? ⟨g, i, none⟩ = false :=
  ⟨_, _, _, _, _, _, _, (h.at hk (r := 0) (by omega)).1, (h.at hk (r := 1) (by omega)).1, (h.at hk (r := 2) (by omega)).1, (h.at hk (r := 3) (by omega)).1, (h.at hk (r := 4) (by omega)).1, (h.at hk (r := 5) (by omega)).1, (h.at hk (r := 6) (by omega)).1, (h.at hk (r := 0) (by omega)).2⟩
theorem RowF.set {w : World} {g o n : Nat} {f : Nat → Nat → Value} (h : RowF w g o n f) {j r0 : Nat} (hj : j < n) (hr0 : r0 < 7) (u : Value) : RowF (w.setCell ⟨g, o + j * 7 + r0, none⟩ u) g o n (fun k r => if k = j ∧ r = r0 then u else f k r) := by
  obtain ⟨c, T, h1, h2, h3⟩ := h
  refine ⟨c.setIfInBounds (o + j * 7 + r0) u, T, heap_setCell_same w g _ c _ _ h1, by simpa using h2, fun k hk r hr => ?_⟩
  show (c.setIfInBounds (o + j * 7 + r0) u)[o + k * 7 + r]? = some (if k = j ∧ r = r0 then u else f k r)
  rw [Array.getElem?_setIfInBounds]
  by_cases e : k = j ∧ r = r0
  · obtain ⟨rfl, rfl⟩ := e
    rw [if_pos rfl, if_pos (by omega), if_pos ⟨rfl, rfl⟩]
  · rw [if_neg (by omega), if_neg e]
    exact h3 k hk r hr
/-- A whole row is written. -/
theorem RowF.put {w : World} {g o n : Nat} {f : Nat → Nat → Value} (h : RowF w g o n f) {j : Nat} (hj : j < n) (y : Ins) :
    RowF (((((((w.setCell ⟨g, o + j * 7, none⟩ (.int .i64 y.op)).setCell ⟨g, o + j * 7 + 1, none⟩ (.int .i64 y.d)).setCell ⟨g, o + j * 7 + 2, none⟩ (.int .i64 y.a)).setCell ⟨g, o + j * 7 + 3, none⟩ (.int .i64 y.b)).setCell ⟨g, o + j * 7 + 4, none⟩ (.int .i64 y.c)).setCell ⟨g, o + j * 7 + 5, none⟩ (.int .i64 y.n)).setCell ⟨g, o + j * 7 + 6, none⟩ (.string y.t)) g o n (fun k r => if k = j then insF y r else f k r) := by
  have h0 := h.set hj (r0 := 0) (by omega) (.int .i64 y.op)
  have h1 := h0.set hj (r0 := 1) (by omega) (.int .i64 y.d)
  have h2 := h1.set hj (r0 := 2) (by omega) (.int .i64 y.a)
  have h3 := h2.set hj (r0 := 3) (by omega) (.int .i64 y.b)
  have h4 := h3.set hj (r0 := 4) (by omega) (.int .i64 y.c)
  have h5 := h4.set hj (r0 := 5) (by omega) (.int .i64 y.n)
  have h6 := h5.set hj (r0 := 6) (by omega) (.string y.t)
  refine h6.congr (fun k hk r hr => ?_)
  by_cases e : k = j
  · subst e
    simp only [true_and]
    match r, hr with
    | 0, _ => rfl
    | 1, _ => rfl
    | 2, _ => rfl
    | 3, _ => rfl
    | 4, _ => rfl
    | 5, _ => rfl
    | 6, _ => rfl
  · simp [e]
/-- Block g begins with these steps. -/
def CodeF (w : World) (g o : Nat) (l : List Ins) : Prop := RowF w g o l.length (fun k r => insF (l[k]!) r)
/-- How far it has come. -/
def midF (code : List Ins) (ps : List Pla) (j : Nat) : List Ins := (fwdUp code ps j).2 ++ code.drop j
theorem midF_len {code : List Ins} {ps : List Pla} (hp : ps.length = code.length) {j : Nat} (hj : j ≤ code.length) : (midF code ps j).length = code.length := by
  rw [midF, List.length_append, fwdUp_len hp j hj, List.length_drop]; omega
theorem midF_at {code : List Ins} {ps : List Pla} (hp : ps.length = code.length) {j : Nat} (hj : j < code.length) : (midF code ps j)[j]! = code[j] := by
  have hl := fwdUp_len hp j (by omega)
  rw [getElem!_pos _ j (by rw [midF_len hp (by omega)]; exact hj)]
  simp only [midF]
  rw [List.getElem_append_right (by omega)]
  simp [hl]
theorem midF_next {code : List Ins} {ps : List Pla} (hp : ps.length = code.length) {j : Nat} (hj : j < code.length) (k : Nat) (hk : k < code.length) :
    (midF code ps (j + 1))[k]! = if k = j then (stepF (fwdUp code ps j).1 code[j] (ps[j]'(by omega))).2 else (midF code ps j)[k]! := by
  have hl := fwdUp_len hp j (by omega)
  have hl1 := fwdUp_len hp (j + 1) (by omega)
  rw [getElem!_pos _ k (by rw [midF_len hp (by omega)]; exact hk)]
  split
  · rename_i e
    subst e
    simp only [midF]
    rw [List.getElem_append_left (by omega)]
    simp only [fwdUp_at hj (show k < ps.length by omega)]
    rw [List.getElem_append_right (by omega)]
    simp [hl]
  · rename_i e
    rw [getElem!_pos _ k (by rw [midF_len hp (by omega)]; exact hk)]
    simp only [midF]
    by_cases hkj : k < j
    · rw [List.getElem_append_left (by omega), List.getElem_append_left (by omega)]
      simp only [fwdUp_at hj (show j < ps.length by omega)]
      rw [List.getElem_append_left (by omega)]
    · rw [List.getElem_append_right (by omega), List.getElem_append_right (by omega)]
      simp only [List.getElem_drop]
      congr 1
      omega
/-- All but two blocks are as they were. -/
def KpQ (wb : World) (m g : Nat) (W : World) : Prop := ∀ k, k < wb.heap.size → k ≠ m → k ≠ g → W.heap[k]? = wb.heap[k]?
theorem KpQ.of {wb W : World} {m g : Nat} (h : But m wb W) : KpQ wb m g W := fun k hk hm _ => h.block k hk hm
theorem KpQ.on {wb W W' : World} {m g : Nat} (h : But m wb W) (hb : But g W W') : KpQ wb m g W' := fun k hk hm hg => (hb.block k (by have := h.size; omega) hg).trans (h.block k hk hm)
theorem KpQ.drew (wb : World) (m g : Nat) : KpQ wb m g wb.drew := fun _ _ _ _ => rfl
theorem set7 (W : World) (g o j : Nat) (v0 v1 v2 v3 v4 v5 v6 : Value) : But g W (((((((W.setCell ⟨g, o + j * 7, none⟩ v0).setCell ⟨g, o + j * 7 + 1, none⟩ v1).setCell ⟨g, o + j * 7 + 2, none⟩ v2).setCell ⟨g, o + j * 7 + 3, none⟩ v3).setCell ⟨g, o + j * 7 + 4, none⟩ v4).setCell ⟨g, o + j * 7 + 5, none⟩ v5).setCell ⟨g, o + j * 7 + 6, none⟩ v6) :=
  ((((((But.refl g W).set _ v0).set _ v1).set _ v2).set _ v3).set _ v4).set _ v5 |>.set _ v6
theorem newI (w : World) (cs : Array Value) : (w.alloc (.cells cs 67)).heap[w.heap.size]? = some (.cells cs 67) := by show (w.heap.push _)[w.heap.size]? = _; exact Array.getElem?_push_size
/-- Between two rounds. -/
structure FcAt (w : World) (g o gp kp : Nat) (code : List Ins) (ps : List Pla) (j : Nat) (W : World) : Prop where
  row : RowF W g o code.length (fun k r => insF ((midF code ps j)[k]!) r)
  map : MapIs W w.heap.size j (fwdUp code ps j).1
  pl : OwnE PlE W 0 (.slice (some ⟨gp, 0, none⟩) ps.length kp) ps
  but : But g w W
  low : g < w.heap.size
  lowp : gp < w.heap.size
  ne : gp ≠ g
theorem FcAt.boxed {w W : World} {g o gp kp : Nat} {code : List Ins} {ps : List Pla} {j : Nat} (h : FcAt w g o gp kp code ps j W) (ob : Obj) : FcAt w g o gp kp code ps j (W.alloc ob) :=
  have al := (Below.refl W.heap.size W).alloc (Nat.le_refl _) ob
  ⟨h.row.keep (al.block _ h.row.lt), h.map.stays al, h.pl.stays al, h.but.on al, h.low, h.lowp, h.ne⟩
/-- What is known behind the call of a round. -/
structure FcCall (w : World) (g o gp kp : Nat) (code : List Ins) (ps : List Pla) (j : Nat) (L2 : List Pai) (wb w5 : World) : Prop where
  but : But w.heap.size wb w5
  map : MapIs w5 w.heap.size (j + 1) L2
  row : RowF w5 g o code.length (fun k r => insF ((midF code ps j)[k]!) r)
  k5 : KpQ wb w.heap.size g w5
  k6 : ∀ v0 v1 v2 v3 v4 v5 v6, KpQ wb w.heap.size g (((((((w5.setCell ⟨g, o + j * 7, none⟩ v0).setCell ⟨g, o + j * 7 + 1, none⟩ v1).setCell ⟨g, o + j * 7 + 2, none⟩ v2).setCell ⟨g, o + j * 7 + 3, none⟩ v3).setCell ⟨g, o + j * 7 + 4, none⟩ v4).setCell ⟨g, o + j * 7 + 5, none⟩ v5).setCell ⟨g, o + j * 7 + 6, none⟩ v6)
theorem fc_call {w wb w5 : World} {g o gp kp : Nat} {code : List Ins} {ps : List Pla} {j : Nat} {L2 : List Pai} (h : FcAt w g o gp kp code ps j wb) (m5 : MapIs w5 w.heap.size (j + 1) L2) (b5 : But w.heap.size wb.drew w5) : FcCall w g o gp kp code ps j L2 wb w5 :=
  have b : But w.heap.size wb w5 := ⟨b5.os, b5.tape, b5.output, b5.size, b5.block⟩
  ⟨b, m5, h.row.keep (b.block g h.row.lt (by have := h.low; omega)), KpQ.of b, fun _ _ _ _ _ _ _ => KpQ.on b (set7 _ _ _ _ _ _ _ _ _ _ _)⟩
theorem fc_next {w wb w5 : World} {g o gp kp : Nat} {code : List Ins} {ps : List Pla} {j : Nat} {L2 : List Pai} (h : FcAt w g o gp kp code ps j wb) (c : FcCall w g o gp kp code ps j L2 wb w5) (hj : j < code.length) (y : Ins) (up : (fwdUp code ps (j + 1)).1 = L2) (mn : ∀ k, k < code.length → (midF code ps (j + 1))[k]! = if k = j then y else (midF code ps j)[k]!) :
    FcAt w g o gp kp code ps (j + 1) (((((((w5.setCell ⟨g, o + j * 7, none⟩ (.int .i64 y.op)).setCell ⟨g, o + j * 7 + 1, none⟩ (.int .i64 y.d)).setCell ⟨g, o + j * 7 + 2, none⟩ (.int .i64 y.a)).setCell ⟨g, o + j * 7 + 3, none⟩ (.int .i64 y.b)).setCell ⟨g, o + j * 7 + 4, none⟩ (.int .i64 y.c)).setCell ⟨g, o + j * 7 + 5, none⟩ (.int .i64 y.n)).setCell ⟨g, o + j * 7 + 6, none⟩ (.string y.t)) := by
  have hb := set7 w5 g o j (.int .i64 y.op) (.int .i64 y.d) (.int .i64 y.a) (.int .i64 y.b) (.int .i64 y.c) (.int .i64 y.n) (.string y.t)
  have hlow := h.low
  have hlowp := h.lowp
  have hne := h.ne
  have h1 := c.row.put hj y
  refine ⟨h1.congr (fun k hk r hr => ?_), ?_, ?_, (upBut h.but c.but (Nat.le_refl _)).twice hb, hlow, hlowp, hne⟩
  · rw [mn k hk]
    split <;> rfl
  · rw [up]; exact c.map.but hb (by omega)
  · refine (h.pl.blk (fun k hk hkl => c.but.block k hkl ?_)).blk (fun k hk hkl => hb.block k hkl ?_)
    · have : gp = k := by simpa [Value.ownBlock] using hk
      omega
    · have : gp = k := by simpa [Value.ownBlock] using hk
      omega
set_option maxRecDepth 100000 in
set_option maxHeartbeats 4000000 in
theorem forwardCode_any (code : List Ins) (ps : List Pla) (w : World) (g o cap gp kp : Nat) (hne : gp ≠ g) (hc : CodeF w g o code) (hp : ps.length = code.length) (hst : ∀ j (h1 : j < code.length) (h2 : j < ps.length), StOk code[j] ps[j]) (hl : code.length ≤ 1000) (hpl : OwnE PlE w 0 (.slice (some ⟨gp, 0, none⟩) ps.length kp) ps) :
    Calls Try.prog 40 #[.slice (some ⟨g, o, none⟩) code.length cap, .slice (some ⟨gp, 0, none⟩) ps.length kp] w fun en w' => en = .returned (.tuple #[]) ∧ CodeF w' g o (fwdUp code ps code.length).2 ∧ But g w w' := by
  have HST := hideP hst
  have HPL := hideP hp
  have hgl := hc.lt
  have hgpl := (hpl.low gp rfl).2
  have S0 : Hid (FcAt w g o gp kp code ps 0 (w.alloc (.map #[] 0))) := by
    have al := (Below.refl w.heap.size w).alloc (Nat.le_refl _) (.map #[] 0)
    refine ⟨?_, MapIs.made w, hpl.stays al, (But.refl g w).on al, hgl, hgpl, hne⟩
    exact RowF.keep hc (al.block _ hgl)
  have hmm := @run_makeMap Try.prog
  obtain ⟨N, hN⟩ : ∃ N, code.length = N := ⟨_, rfl⟩
  have HN := hideP hN
  rw [hp, hN]
  rw [hN] at hl
  clear hst hpl hc hp hN
  go_enter Try.func40, Try.ntmps40
  go_wp2
  clear hmm
  go_loopg [10] N (fun gk ix wr => ∃ j : Nat, gk + j = N ∧ ix = .int .i64 j ∧ Hid (FcAt w g o gp kp code ps j wr))
  case atStart => exact ⟨0, by simp, rfl, S0.out⟩
  case round =>
    obtain ⟨j, hj, rfl, hS⟩ := hrel
    clear S0
    by_cases hlt : j < N
    · have hjc : j < code.length := by rw [HN.out]; exact hlt
      have hjp : j < ps.length := by rw [HPL.out]; exact hjc
      obtain ⟨X, hX⟩ : ∃ X, code[j] = X := ⟨_, rfl⟩
      obtain ⟨P, hP⟩ : ∃ P, ps[j] = P := ⟨_, rfl⟩
      obtain ⟨L, hL⟩ : ∃ L, (fwdUp code ps j).1 = L := ⟨_, rfl⟩
      obtain ⟨Y, hY⟩ : ∃ Y, (stepF L X P).2 = Y := ⟨_, rfl⟩
      obtain ⟨L2, hL2⟩ : ∃ L2, (stepF L X P).1 = L2 := ⟨_, rfl⟩
      have st := HST.out j hjc hjp
      rw [hX, hP] at st
      have UP : Hid ((fwdUp code ps (j + 1)).1 = L2) := by show _ = _; rw [fwdUp_at hjc hjp, hL, hX, hP, hL2]
      have MN : Hid (∀ k, k < code.length → (midF code ps (j + 1))[k]! = if k = j then Y else (midF code ps j)[k]!) := fun k hk => by rw [midF_next HPL.out hjc k hk, hL, hX, hP, hY]
      have PS : Hid (∀ W, MapIs W w.heap.size j L → Calls Try.prog 68 #[.map (some w.heap.size), .agg (insV X), .agg (plV P)] W fun e w' => e = .returned (.agg (insV Y)) ∧ MapIs w' w.heap.size (j + 1) L2 ∧ But w.heap.size W w') := fun W hW => by
        rw [← hY, ← hL2]
        exact pstep_any L X P W w.heap.size j hW st (by omega)
      have hr : ∀ r, r < 7 → wr.cell? ⟨g, o + j * 7 + r, none⟩ = some (insF X r) := fun r hr => by
        have := (hS.out.row.at hjc hr).1
        rw [midF_at HPL.out hjc, hX] at this
        exact this
      have HP := hideP hP
      have HLL := hideP hL
      clear hX hL hY hL2 st hP
      obtain ⟨op, d, a, b0, c0, nn, t⟩ := X
      obtain ⟨y0, y1, y2, y3, y4, y5, yt⟩ := Y
      obtain ⟨pr, pi, pj, po⟩ := P
      simp only [insV, plV] at PS
      have x0 : wr.cell? ⟨g, o + j * 7, none⟩ = some (.int .i64 op) := hr 0 (by omega)
      have x1 : wr.cell? ⟨g, o + j * 7 + 1, none⟩ = some (.int .i64 d) := hr 1 (by omega)
      have x2 : wr.cell? ⟨g, o + j * 7 + 2, none⟩ = some (.int .i64 a) := hr 2 (by omega)
      have x3 : wr.cell? ⟨g, o + j * 7 + 3, none⟩ = some (.int .i64 b0) := hr 3 (by omega)
      have x4 : wr.cell? ⟨g, o + j * 7 + 4, none⟩ = some (.int .i64 c0) := hr 4 (by omega)
      have x5 : wr.cell? ⟨g, o + j * 7 + 5, none⟩ = some (.int .i64 nn) := hr 5 (by omega)
      have x6 : wr.cell? ⟨g, o + j * 7 + 6, none⟩ = some (.string t) := hr 6 (by omega)
      have S1 := hideP (hS.out.boxed (.cells #[.int .i64 op, .int .i64 d, .int .i64 a, .int .i64 b0, .int .i64 c0, .int .i64 nn, .string t] 67))
      have BX := hideP (newI wr #[.int .i64 op, .int .i64 d, .int .i64 a, .int .i64 b0, .int .i64 c0, .int .i64 nn, .string t])
      have hml := hS.out.map.lt
      clear hr hS
      go_upto_region 4 with fail
      clear x0 x1 x2 x3 x4 x5 x6
      obtain ⟨wb, hwb⟩ : ∃ wb, wr.alloc (.cells #[.int .i64 op, .int .i64 d, .int .i64 a, .int .i64 b0, .int .i64 c0, .int .i64 nn, .string t] 67) = wb := ⟨_, rfl⟩
      rw [hwb] at S1 BX ⊢
      clear hwb
      have SK : Hid (∀ W', KpQ wb w.heap.size g W' → W'.cell? ⟨wr.heap.size, 0, none⟩ = some (.int .i64 op) ∧ W'.cell? ⟨wr.heap.size, 1, none⟩ = some (.int .i64 d) ∧ W'.cell? ⟨wr.heap.size, 2, none⟩ = some (.int .i64 a) ∧ W'.cell? ⟨wr.heap.size, 3, none⟩ = some (.int .i64 b0) ∧ W'.cell? ⟨wr.heap.size, 4, none⟩ = some (.int .i64 c0) ∧ W'.cell? ⟨wr.heap.size, 5, none⟩ = some (.int .i64 nn) ∧ W'.cell? ⟨wr.heap.size, 6, none⟩ = some (.string t) ∧ W'.cell? ⟨gp, j * 4, none⟩ = some (.int .i64 pr) ∧ W'.cell? ⟨gp, j * 4 + 1, none⟩ = some (.int .i64 pi) ∧ W'.cell? ⟨gp, j * 4 + 2, none⟩ = some (.int .i64 pj) ∧ W'.cell? ⟨gp, j * 4 + 3, none⟩ = some (.int .i64 po)) := fun W' hk => by
        have hb := (hk wr.heap.size (hltP BX.out) (by omega) (by have := S1.out.low; omega)).trans BX.out
        have hq := pla_at S1.out.pl j hjp
        rw [HP.out] at hq
        have hg : ∀ i u, wb.cell? ⟨gp, i, none⟩ = some u → W'.cell? ⟨gp, i, none⟩ = some u := fun i u hu => (World.cell?_of_block (a := ⟨gp, i, none⟩) (hk gp (by have := S1.out.lowp; have := S1.out.but.size; omega) (by have := S1.out.lowp; omega) S1.out.ne)).trans hu
        have hc := (cells_of hb).1
        exact ⟨hc 0, hc 1, hc 2, hc 3, hc 4, hc 5, hc 6, hg _ _ hq.1, hg _ _ hq.2.1, hg _ _ hq.2.2.1, hg _ _ hq.2.2.2⟩
      have M1 : Hid (MapIs wb.drew w.heap.size j L) := by have := S1.out.map; rw [HLL.out] at this; exact this
      go_region_held3 (fun W' => W'.cell? ⟨wr.heap.size, 0, none⟩ = some (.int .i64 op) ∧ W'.cell? ⟨wr.heap.size, 1, none⟩ = some (.int .i64 d) ∧ W'.cell? ⟨wr.heap.size, 2, none⟩ = some (.int .i64 a) ∧ W'.cell? ⟨wr.heap.size, 3, none⟩ = some (.int .i64 b0) ∧ W'.cell? ⟨wr.heap.size, 4, none⟩ = some (.int .i64 c0) ∧ W'.cell? ⟨wr.heap.size, 5, none⟩ = some (.int .i64 nn) ∧ W'.cell? ⟨wr.heap.size, 6, none⟩ = some (.string t) ∧ W'.cell? ⟨gp, j * 4, none⟩ = some (.int .i64 pr) ∧ W'.cell? ⟨gp, j * 4 + 1, none⟩ = some (.int .i64 pi) ∧ W'.cell? ⟨gp, j * 4 + 2, none⟩ = some (.int .i64 pj) ∧ W'.cell? ⟨gp, j * 4 + 3, none⟩ = some (.int .i64 po)) (first | with_reducible exact SK.out _ C5.out.k5 | with_reducible exact SK.out _ (C5.out.k6 _ _ _ _ _ _ _) | with_reducible exact SK.out _ (KpQ.drew _ _ _)) (first
        | (go_at_call 68; refine (PS.out _ M1.out).mono ?_; rintro e5 w5 ⟨rfl, m5, b5⟩; have C5 := hideP (fc_call S1.out m5 b5); obtain ⟨u0, u1, u2, u3, u4, u5, u6, q0, q1, q2, q3, q4, q5, q6, qf⟩ := C5.out.row.seen hjc; clear b5 m5))
      have S6 : Hid (FcAt w g o gp kp code ps (j + 1) (((((((w5.setCell ⟨g, o + j * 7, none⟩ (.int .i64 y0)).setCell ⟨g, o + j * 7 + 1, none⟩ (.int .i64 y1)).setCell ⟨g, o + j * 7 + 2, none⟩ (.int .i64 y2)).setCell ⟨g, o + j * 7 + 3, none⟩ (.int .i64 y3)).setCell ⟨g, o + j * 7 + 4, none⟩ (.int .i64 y4)).setCell ⟨g, o + j * 7 + 5, none⟩ (.int .i64 y5)).setCell ⟨g, o + j * 7 + 6, none⟩ (.string yt))) := fc_next S1.out C5.out hjc ⟨y0, y1, y2, y3, y4, y5, yt⟩ UP.out MN.out
      clear SK M1 C5 S1 q0 q1 q2 q3 q4 q5 q6 qf PS BX
      go_wp2
      go_roundg (N - (j + 1))
      case rel => exact ⟨j + 1, by omega, by go_num, S6.out⟩
      case measure => omega
    · have hjn : j = N := by omega
      subst hjn
      have E : Hid (CodeF wr g o (fwdUp code ps j).2) := by
        have h1 := hS.out.row
        have e : midF code ps j = (fwdUp code ps j).2 := by rw [midF, ← HN.out, List.drop_length, List.append_nil]
        rw [e, HN.out] at h1
        have hl2 := fwdUp_len HPL.out j (by rw [HN.out]; exact Nat.le_refl _)
        show RowF _ _ _ _ _
        rw [hl2]; exact h1
      go_wp2
      go_end0
      exact ⟨rfl, E.out, hS.out.but⟩
end Go.Proofs.Ytljeahjcfbcbgaa

/- The code of one block of a graph of one's own is written anew. -/
namespace Go.Proofs.Ytljeahjcfbcbgaa
open Go.ChangeShapes Go.WideShapes Go.ChangeAt Go.RowKit
theorem RowAt.butne {w w' : World} {B g b o : Nat} {n sz : Nat} {vs : Nat → Array Value} (h : RowAt w B (some ⟨b, o, none⟩) n sz vs) (hne : b ≠ g) (hb : But g w w') : RowAt w' B (some ⟨b, o, none⟩) n sz vs := by
  rcases h with h | ⟨b', o', ha, hB, hbl, hp, hc⟩
  · exact Or.inl h
  · cases ha
    have hk := hb.block b hbl hne
    refine Or.inr ⟨b, o, rfl, hB, Nat.lt_of_lt_of_le hbl hb.size, fun h0 => ?_, fun i hi => ⟨(hc i hi).1, fun j hj => ?_⟩⟩
    · obtain ⟨cs, T, h1⟩ := hp h0
      exact ⟨cs, T, hk.trans h1⟩
    · rw [World.cell?_of_block (a := ⟨b, o + i * sz + j, none⟩) hk]
      exact (hc i hi).2 j hj
theorem SlIs.butne {w w' : World} {B g : Nat} {a : Option Addr} {xs : List Ins} (h : SlIs InsIs 7 w B a xs) (hne : 0 < xs.length → ∀ b o, a = some ⟨b, o, none⟩ → b ≠ g) (hb : But g w w') : SlIs InsIs 7 w' B a xs := by
  obtain ⟨hl, vs, hr, hx⟩ := h
  refine ⟨hl, vs, ?_, hx⟩
  by_cases h0 : xs.length = 0
  · exact Or.inl h0
  · rcases id hr with h1 | ⟨b, o, ha, _⟩
    · exact absurd h1 h0
    · subst ha
      exact hr.butne (hne (by omega) b o rfl) hb
theorem IntsIs.butne {w w' : World} {B g : Nat} {a : Option Addr} {zs : List Int} (h : IntsIs w B a zs) (hne : 0 < zs.length → ∀ b o, a = some ⟨b, o, none⟩ → b ≠ g) (hb : But g w w') : IntsIs w' B a zs := by
  obtain ⟨hl, h0 | ⟨b, o, ha, hB, hbl, hp, hc⟩⟩ := h
  · exact ⟨hl, Or.inl h0⟩
  · by_cases hz : zs.length = 0
    · exact ⟨hl, Or.inl hz⟩
    · have hk := hb.block b hbl (hne (by omega) b o ha)
      refine ⟨hl, Or.inr ⟨b, o, ha, hB, Nat.lt_of_lt_of_le hbl hb.size, fun h0 => ?_, fun i hi => ?_⟩⟩
      · obtain ⟨cs, T, h1⟩ := hp h0
        exact ⟨cs, T, hk.trans h1⟩
      · rw [World.cell?_of_block (a := ⟨b, o + i, none⟩) hk]
        exact hc i hi
theorem slice_inj {a b : Option Addr} {n m c d : Nat} (h : Value.slice a n c = Value.slice b m d) : a = b ∧ n = m ∧ c = d := by cases h; exact ⟨rfl, rfl, rfl⟩
theorem five_inj {a0 a1 a2 a3 a4 b0 b1 b2 b3 b4 : Value} (h : #[a0, a1, a2, a3, a4] = #[b0, b1, b2, b3, b4]) : a0 = b0 ∧ a4 = b4 := by simp at h; exact ⟨h.1, h.2.2.2.2⟩
/-- The code that stands in a block anew is that code. -/
theorem CodeF.is {w : World} {g o B : Nat} {l : List Ins} (h : CodeF w g o l) (hB : B ≤ g) (hl : l.length ≤ maxLen) (hw : ∀ z ∈ l, z.wf ∧ z.t.size ≤ maxLen) : SlIs InsIs 7 w B (some ⟨g, o, none⟩) l := by
  obtain ⟨cur, T, h1, h2, h3⟩ := h
  refine ⟨hl, fun i => insV (l[i]!), Or.inr ⟨g, o, rfl, hB, hltP h1, fun _ => ⟨cur, T, h1⟩, fun i hi => ⟨rfl, fun j hj => ?_⟩⟩, fun i hi => ?_⟩
  · simp only [World.cell?, h1]
    rw [h3 i hi j hj, insF_at _ j hj]
    rfl
  · simp only [getElem!_pos l i hi]
    exact ⟨rfl, hw _ (List.getElem_mem hi)⟩
theorem codeF_of {w : World} {g o B : Nat} {l : List Ins} (h : SlIs InsIs 7 w B (some ⟨g, o, none⟩) l) (hc : ∃ c T, w.heap[g]? = some (.cells c T (0, 0)) ∧ o + l.length * 7 ≤ c.size) : CodeF w g o l := by
  obtain ⟨c, T, h1, h2⟩ := hc
  obtain ⟨_, vs, hr, hx⟩ := h
  refine ⟨c, T, h1, h2, fun k hk r hr7 => ?_⟩
  rcases hr with h0 | ⟨b', o', ha, _, _, _, hcc⟩
  · omega
  · cases ha
    have e1 : c[o + k * 7 + r]? = (vs k)[r]? := by
      have := (hcc k hk).2 r hr7
      simp only [World.cell?, h1] at this
      exact this
    rw [e1, (hx k hk).1]
    show _ = some (insF (l[k]!) r)
    rw [getElem!_pos l k hk]
    exact insF_at _ r hr7
/-- Where the code of block i lies. -/
theorem GOwn.codeAt {W : World} {A : Nat} {v : Array Value} {y : Gr} {S : CRow} {gb : Nat} {cs : List CRow} (h : GrIs W A v y) (ow : GOwn W v S gb 0 cs) {i : Nat} (hic : i < cs.length) :
    ∃ us kS ub kB vs, v = #[.slice us y.sizes.length kS, .int .i64 y.params, .int .i64 y.vars, .int .i64 y.slots, .slice ub y.blocks.length kB] ∧ ub = some ⟨gb, 0, none⟩ ∧ (0 < y.sizes.length → us = some ⟨S.b, S.o, none⟩ ∧ 0 < S.n) ∧ IntsIs W A us y.sizes ∧ RowAt W A ub y.blocks.length 5 vs ∧ y.blocks.length ≤ maxLen ∧ y.wf ∧ (∀ (k : Nat) (hk : k < y.blocks.length) (hkc : k < cs.length), ∃ uc kc, vs k = #[.slice uc (y.blocks[k]).code.length kc, .int .i64 (y.blocks[k]).jump, .int .i64 (y.blocks[k]).a, .int .i64 (y.blocks[k]).to, .int .i64 (y.blocks[k]).els] ∧ (y.blocks[k]).wf ∧ SlIs InsIs 7 W A uc (y.blocks[k]).code ∧ cs[k].n = (y.blocks[k]).code.length ∧ (0 < (y.blocks[k]).code.length → uc = some ⟨cs[k].b, cs[k].o, none⟩)) := by
  obtain ⟨us, kS, ub, kB, rfl, ok, hs, hl, vs, hr, hx⟩ := h
  obtain ⟨ads, caps, p, q, r, adb, capb, hv, h1, h2⟩ := ow.val
  obtain ⟨e0, e4⟩ := five_inj hv
  obtain ⟨rfl, en, rfl⟩ := slice_inj e0
  obtain ⟨rfl, em, rfl⟩ := slice_inj e4
  have hub : ub = some ⟨gb, 0, none⟩ := by
    rcases h2 with h2 | h2
    · subst h2; simp at hic
    · exact h2
  refine ⟨us, kS, ub, kB, vs, rfl, hub, fun h0 => ?_, hs, hr, hl, ok, fun k hk hkc => ?_⟩
  · rcases h1 with h1 | h1
    · omega
    · exact ⟨h1, by omega⟩
  · obtain ⟨uc, kc, hvk, hw, hcode⟩ := hx k hk
    obtain ⟨ad, cap, hc, had⟩ := ow.codes.cell k hkc
    have hc2 : W.cell? ⟨gb, 0 + k * 5, none⟩ = (vs k)[0]? := by
      rcases hr with h0 | ⟨b', o', ha, _, _, _, hcc⟩
      · omega
      · rw [hub] at ha
        cases ha
        have := (hcc k hk).2 0 (by omega)
        simpa using this
    rw [hvk, hc] at hc2
    have hc3 : Value.slice ad cs[k].n cap = Value.slice uc (y.blocks[k]).code.length kc := by simpa using hc2
    obtain ⟨ea, en2, _⟩ := slice_inj hc3
    refine ⟨uc, kc, hvk, hw, hcode, en2, fun h0 => ?_⟩
    rcases had with had | had
    · omega
    · rw [← ea]; exact had
theorem GrIs.recode {W W' : World} {A : Nat} {v : Array Value} {y : Gr} {S : CRow} {gb : Nat} {cs : List CRow} (h : GrIs W A v y) (ow : GOwn W v S gb 0 cs) (hl : cs.length = y.blocks.length) {i : Nat} (hi : i < y.blocks.length) (hic : i < cs.length) (hpos : 0 < (y.blocks[i]).code.length)
    {code' : List Ins} (hl' : code'.length = (y.blocks[i]).code.length) (hw : ∀ z ∈ code', z.wf ∧ z.t.size ≤ maxLen) (hb : But cs[i].b W W') (hc : CodeF W' cs[i].b cs[i].o code') :
    GrIs W' A v { y with blocks := y.blocks.set i { y.blocks[i] with code := code' } } ∧ GOwn W' v S gb 0 cs := by
  obtain ⟨us, kS, ub, kB, vs, rfl, rfl, hus, hs, hr, hlen, ok, hall⟩ := ow.codeAt h hic
  have hni : 0 < cs[i].n := by obtain ⟨_, _, _, _, _, e, _⟩ := hall i hi hic; omega
  have hne : cs ≠ [] := fun e => by subst e; simp at hic
  have hgb := ow.codes.own i hic hni
  refine ⟨⟨us, kS, some ⟨gb, 0, none⟩, kB, by simp only [List.length_set], ok, ?_, ?_⟩, ?_⟩
  · refine hs.butne (fun h0 b o e => ?_) hb
    obtain ⟨e1, hsn⟩ := hus h0
    rw [e1] at e
    cases e
    exact ow.sc hsn i hic hni
  · refine ⟨by simpa using hlen, vs, by simpa using hr.butne (Ne.symm hgb) hb, fun k hk => ?_⟩
    simp only [List.length_set] at hk
    obtain ⟨uc, kc, hv, hwk, hcode, hnk, huc⟩ := hall k hk (by omega)
    by_cases e : i = k
    · subst e
      rw [List.getElem_set_self]
      refine ⟨uc, kc, by rw [hv]; simp only [hl'], hwk, ?_⟩
      rw [huc hpos]
      have hA : A ≤ cs[i].b := by
        rw [huc hpos] at hcode
        obtain ⟨_, vs2, hr2, _⟩ := hcode
        rcases hr2 with h0 | ⟨b', o', ha, hB, _⟩
        · omega
        · cases ha; exact hB
      refine hc.is hA ?_ hw
      rw [hl']; exact hcode.1
    · rw [List.getElem_set_ne e]
      refine ⟨uc, kc, hv, hwk, hcode.butne (fun h0 b o e2 => ?_) hb⟩
      rw [huc h0] at e2
      cases e2
      exact ow.codes.dis k i (by omega) hic (fun e3 => e e3.symm) (by omega) hni
  · exact {
      val := ow.val
      srow := fun h0 => by
        obtain ⟨c, T, h1, h2⟩ := ow.srow h0
        exact ⟨c, T, (hb.block _ (hltP h1) (ow.sc h0 i hic hni)).trans h1, h2⟩
      brow := fun h0 => by
        obtain ⟨c, T, h1, h2⟩ := ow.brow h0
        exact ⟨c, T, (hb.block _ (hltP h1) (Ne.symm hgb)).trans h1, h2⟩
      codes := {
        cell := fun k hk => by
          obtain ⟨ad, cap, h1, h2⟩ := ow.codes.cell k hk
          refine ⟨ad, cap, ?_, h2⟩
          rw [hb.cell (World.block_lt_of_cell? W _ h1) (Ne.symm hgb)]
          exact h1
        row := fun k hk h0 => by
          by_cases e : k = i
          · subst e
            obtain ⟨cur, T, h1, h2, _⟩ := hc
            obtain ⟨_, _, _, _, _, e2, _⟩ := hall k hi hk
            exact ⟨cur, T, h1, by omega⟩
          · obtain ⟨c, T, h1, h2⟩ := ow.codes.row k hk h0
            exact ⟨c, T, (hb.block _ (hltP h1) (ow.codes.dis k i hk hic e h0 hni)).trans h1, h2⟩
        own := ow.codes.own
        dis := ow.codes.dis }
      sb := ow.sb
      sc := ow.sc }
end Go.Proofs.Ytljeahjcfbcbgaa

/- The places of a block that is right are right; the blocks, one after another. -/
namespace Go.Proofs.Ytljeahjcfbcbgaa
open Go.ChangeShapes Go.WideShapes Go.ChangeAt Go.RowKit
theorem placesUp_get (V : Nat) (code : List Ins) : ∀ (n j : Nat) (hn : n ≤ code.length) (hj : j < n), (placesUp V code n)[j]'(by rw [placesUp_len V code n hn]; exact hj) = placeP (ledP V (code.take j)) (code[j]'(by omega))
  | 0, _, _, hj => absurd hj (Nat.not_lt_zero _)
  | n + 1, j, hn, hj => by
    have e := placesUp_at V (show n < code.length by omega)
    have hl := placesUp_len V code n (by omega)
    simp only [e]
    by_cases h : j < n
    · rw [List.getElem_append_left (by omega)]
      exact placesUp_get V code n j (by omega) h
    · obtain rfl : j = n := by omega
      rw [List.getElem_append_right (by omega)]
      simp [hl]
theorem minmax_i64 {a b : Int} (ha : I64 a) (hb : I64 b) : I64 (min a b) ∧ I64 (max a b) := by
  unfold I64 at *
  omega
theorem plaI_place {R : Int} {V : Nat} {l : Led} {x : Ins} (h : LedOk V l) (hf : V + l.fresh ≤ 1000000) (hx : insOk R V x = true) (hn : I64 x.n) : PlaI (placeP l x) := by
  have m1 : I64 (-1) := ⟨by omega, by omega⟩
  have z : I64 0 := ⟨by omega, by omega⟩
  have go : (x.op = 3 ∨ x.op = 4) → vOk V x.b = true → (x.a = -1 ∨ vOk V x.a = true) → PlaI (placeP l x) := fun e hb ha => by
    have h1 : I64 (l.oget x.a).base := by
      unfold Led.oget
      split
      · exact m1
      · rename_i hne
        rcases ha with ha | ha
        · exact absurd ha hne
        · exact (h.get ha).i64 hf
    have h2 : I64 (l.get x.b).base := (h.get hb).i64 hf
    have := minmax_i64 h1 h2
    simp only [placeP, if_pos e]
    exact ⟨hn, this.1, this.2, wrap64_i64 _⟩
  have no : ¬ (x.op = 3 ∨ x.op = 4) → PlaI (placeP l x) := fun e => by
    simp only [placeP, if_neg e]
    exact ⟨m1, z, z, z⟩
  rcases insOk_slots hx with ⟨e, _⟩ | ⟨e, _⟩ | ⟨e, _⟩ | ⟨e, _, hb, ha, _⟩ | ⟨e, hb, ha, _⟩ | ⟨e, _⟩ | e
  · exact no (by omega)
  · exact no (by omega)
  · exact no (by omega)
  · exact go (Or.inl e) hb ha
  · exact go (Or.inr e) hb ha
  · exact no (by omega)
  · exact no (by omega)
theorem insOk_d {R V : Int} {x : Ins} (h : insOk R V x = true) (e : x.op = 3) : 0 ≤ x.d := by
  unfold insOk vOk at h
  simp [e] at h
  omega
theorem insOk_c {R V : Int} {x : Ins} (h : insOk R V x = true) (e : x.op = 4) : 0 ≤ x.c := by
  unfold insOk vOk at h
  simp [e] at h
  omega
theorem stOk_all {R : Int} {V : Nat} {code : List Ins} (co : CodeOk R V code) (hw : ∀ x ∈ code, x.wf ∧ x.t.size ≤ maxLen) : ∀ j (h1 : j < code.length) (h2 : j < (placesUp V code code.length).length), StOk code[j] (placesUp V code code.length)[j] := fun j h1 h2 => by
  have hm := List.getElem_mem h1
  obtain ⟨k1, k2⟩ := co.2.2 _ hm
  obtain ⟨w1, w2⟩ := hw _ hm
  have hl := ledP_ok co.2.2 j (by omega)
  rw [placesUp_get V code code.length j (Nat.le_refl _) h1]
  exact ⟨plaI_place hl.1 (by have := co.1; have := co.2.1; omega) k1 k2, w1, w2, insOk_d k1, insOk_c k1⟩
theorem ins_all {w : World} {B : Nat} {u : Option Addr} {code : List Ins} (h : SlIs InsIs 7 w B u code) : ∀ x ∈ code, x.wf ∧ x.t.size ≤ maxLen := fun x hx => by
  obtain ⟨i, hi, rfl⟩ := List.getElem_of_mem hx
  obtain ⟨_, _, _, _, _, _, _, _, ok⟩ := h.at i hi
  exact ok.2
theorem fwdCode_wf {R : Int} {V : Nat} {code : List Ins} (co : CodeOk R V code) (hw : ∀ x ∈ code, x.wf ∧ x.t.size ≤ maxLen) : ∀ z ∈ fwdCode V code, z.wf ∧ z.t.size ≤ maxLen :=
  (fwdUp_ok (placesUp_len V code _ (Nat.le_refl _)) (stOk_all co hw) code.length (Nat.le_refl _)).2
/-- The first j blocks are done. -/
def midB (V : Nat) (bs : List Blk) : Nat → List Blk
  | 0 => bs
  | j + 1 => (midB V bs j).set j (fwdB V (bs[j]!))
theorem midB_len (V : Nat) (bs : List Blk) : ∀ j, (midB V bs j).length = bs.length
  | 0 => rfl
  | j + 1 => by simp [midB, midB_len V bs j]
theorem midB_ge (V : Nat) (bs : List Blk) : ∀ j k, j ≤ k → (h : k < bs.length) → (midB V bs j)[k]'(by rw [midB_len]; exact h) = bs[k]
  | 0, _, _, _ => rfl
  | j + 1, k, hk, h => by
    simp only [midB]
    rw [List.getElem_set_ne (by omega)]
    exact midB_ge V bs j k (by omega) h
theorem midB_lt (V : Nat) (bs : List Blk) : ∀ j k, k < j → (h : k < bs.length) → (midB V bs j)[k]'(by rw [midB_len]; exact h) = fwdB V bs[k]
  | 0, _, hk, _ => absurd hk (Nat.not_lt_zero _)
  | j + 1, k, hk, h => by
    simp only [midB]
    by_cases e : j = k
    · subst e
      rw [List.getElem_set_self, getElem!_pos bs j h]
    · rw [List.getElem_set_ne e]
      exact midB_lt V bs j k (by omega) h
theorem midB_all (V : Nat) (bs : List Blk) : midB V bs bs.length = bs.map (fwdB V) := by
  apply List.ext_getElem (by simp [midB_len])
  intro k h1 h2
  rw [midB_lt V bs bs.length k (by rw [midB_len] at h1; exact h1) (by rw [midB_len] at h1; exact h1)]
  simp
theorem midB_code (V : Nat) (bs : List Blk) (j k : Nat) : ((midB V bs j)[k]!).code.length = (bs[k]!).code.length := by
  by_cases h : k < bs.length
  · have h' : k < (midB V bs j).length := by rw [midB_len]; exact h
    rw [getElem!_pos bs k h, getElem!_pos (midB V bs j) k h']
    by_cases e : k < j
    · rw [midB_lt V bs j k e h]; simp [fwdB, fwdCode_len]
    · rw [midB_ge V bs j k (by omega) h]
  · have h' : ¬ k < (midB V bs j).length := by rw [midB_len]; exact h
    rw [getElem!_neg bs k h, getElem!_neg (midB V bs j) k h']
theorem midB_skip (V : Nat) {bs : List Blk} {j : Nat} (h : j < bs.length) (he : (bs[j]).code = []) : midB V bs (j + 1) = midB V bs j := by
  have e : fwdB V (bs[j]!) = (midB V bs j)[j]'(by rw [midB_len]; exact h) := by
    rw [midB_ge V bs j j (Nat.le_refl _) h, getElem!_pos bs j h]
    have : fwdCode V (bs[j]).code = (bs[j]).code := by rw [he]; rfl
    unfold fwdB
    rw [this]
  show (midB V bs j).set j (fwdB V (bs[j]!)) = _
  rw [e, List.set_getElem_self]
set_option maxRecDepth 100000 in
theorem forwardCode_nil (w : World) (u : Option Addr) (cap : Nat) (vp : Value) :
    Calls Try.prog 40 #[.slice u 0 cap, vp] w fun en w' => en = .returned (.tuple #[]) ∧ Below w.heap.size w w' := by
  have hmm := @run_makeMap Try.prog
  have al := (Below.refl w.heap.size w).alloc (Nat.le_refl _) (.map #[] 0)
  go_enter Try.func40, Try.ntmps40
  go_wp2
  clear hmm
  go_loopw [10] (fun ix wr => ix = .int .i64 0 ∧ wr = w.alloc (.map #[] 0)) (fun _ _ => 0)
  case atStart => exact ⟨rfl, rfl⟩
  case round =>
    obtain ⟨rfl, rfl⟩ := hrel
    go_wp2
    go_end0
    exact ⟨rfl, al⟩
end Go.Proofs.Ytljeahjcfbcbgaa
