/- The contract of impl.withBlocks (written by wip/mkwithb2.py). -/
import Derived.Test.YtobpcfelgobedaaRWnC
import Derived.Test.YtobpcfelgobedaaRMadG
import Derived.Deep.LoopGhost
namespace Go.Proofs.YtobpcfelgobedaaR
open Go.ChangeShapes Go.WideShapes Go.ChangeAt Go.RowKit
/-- Its box, its result and the new numbers. -/
structure WB (w : World) (bx : Array Value) (N : List Int) (wr : World) : Prop where
  box : wr.heap[w.heap.size]? = some (.cells bx 30 (0, 0))
  res : wr.heap[w.heap.size + 1]? = some (.cells #[.slice none 0 0, .int .i64 0, .int .i64 0, .int .i64 0, .slice none 0 0] 30 (0, 0))
  num : NumIs wr (w.heap.size + 2) N
  nb : wr.heap[w.heap.size + 3]? = some (.cells #[.slice (some ⟨w.heap.size + 2, 0, none⟩) N.length N.length] 22 (0, 0))
  bel : Below w.heap.size w wr
  big : w.heap.size + 4 ≤ wr.heap.size
theorem WB.stays {w wr wr' : World} {bx : Array Value} {N : List Int} (h : WB w bx N wr) (b : Below wr.heap.size wr wr') : WB w bx N wr' :=
  ⟨(b.block _ (hltH h.box)).trans h.box, (b.block _ (hltH h.res)).trans h.res, h.num.keep (b.block _ (by have := h.big; omega)), (b.block _ (hltH h.nb)).trans h.nb, below_trans h.bel b, Nat.le_trans h.big b.size⟩
theorem WB.grown {w wr wr' : World} {bx : Array Value} {N : List Int} {row : Option Nat} (h : WB w bx N wr) (hg : wr.grownBy wr' row) (hr : ∀ k, row = some k → w.heap.size + 4 ≤ k) : WB w bx N wr' := by
  have hb := h.big
  have hk : ∀ k, k < w.heap.size + 4 → wr'.heap[k]? = wr.heap[k]? := fun k hk => hg.block k (by omega) (fun e => by have := hr k e.symm; omega)
  exact ⟨(hk _ (by omega)).trans h.box, (hk _ (by omega)).trans h.res, h.num.keep (hk _ (by omega)), (hk _ (by omega)).trans h.nb, h.bel.grown hg (by omega) (fun k e => by have := hr k e; omega), Nat.le_trans hb hg.size⟩
theorem WB.put {w wr : World} {bx : Array Value} {N : List Int} (h : WB w bx N wr) (k : Nat) (z : Int) : WB w bx (N.set k z) (wr.setCell ⟨w.heap.size + 2, k, none⟩ (.int .i64 z)) :=
  ⟨(Below.heap_setCell wr ⟨w.heap.size + 2, k, none⟩ _ _ (by simp only; omega)).trans h.box, (Below.heap_setCell wr ⟨w.heap.size + 2, k, none⟩ _ _ (by simp only; omega)).trans h.res, h.num.set k z, by rw [List.length_set]; exact (Below.heap_setCell wr ⟨w.heap.size + 2, k, none⟩ _ _ (by simp only; omega)).trans h.nb, h.bel.setCell (p := ⟨w.heap.size + 2, k, none⟩) (by simp only; omega) _, by rw [size_set]; exact h.big⟩
/-- The rows told so far. -/
def RowsOk (w : World) (B : Nat) (bs : List Blk) (L : List Int) (rows : List BRow) : Prop := ∀ i (h : i < rows.length), rows[i].2.2 = reB (numF bs.length L L.length) (bs[(L[i]!).toNat]!) ∧ (rows[i].2.2).wf ∧ SlIs InsIs 7 w B rows[i].1 (rows[i].2.2).code
theorem RowsOk.snoc {w : World} {B : Nat} {bs : List Blk} {L : List Int} {rows : List BRow} (h : RowsOk w B bs L rows) {x : BRow} (h1 : x.2.2 = reB (numF bs.length L L.length) (bs[(L[rows.length]!).toNat]!)) (h2 : (x.2.2).wf) (h3 : SlIs InsIs 7 w B x.1 (x.2.2).code) : RowsOk w B bs L (rows ++ [x]) := by
  intro i hi
  by_cases hl : i < rows.length
  · rw [List.getElem_append_left hl]; exact h i hl
  · obtain rfl : i = rows.length := by simp at hi; omega
    rw [List.getElem_append_right (by omega)]
    simp only [Nat.sub_self, List.getElem_cons_zero]
    exact ⟨h1, h2, h3⟩
theorem rows_is {w W : World} {B B' g n k : Nat} {bs : List Blk} {L : List Int} {rows : List BRow} (ho : OwnE BlE W B' (.slice (some ⟨g, 0, none⟩) n k) rows) (hr : RowsOk w B bs L rows) (hE : rows.length = L.length) (hn : L.length ≤ 300) (bel : Below w.heap.size w W) : SlIs BlkIs 5 W 0 (some ⟨g, 0, none⟩) (rowB bs L) := by
  have hm := maxLen_lt
  have hlen : (rowB bs L).length = L.length := by simp [rowB]
  obtain ⟨g', cap, cur, hv, _, hh, _, _, _, hx⟩ := ho.parts BlE_ok
  injection hv with e1
  injection e1 with e1
  injection e1 with e1
  subst e1
  refine ⟨by unfold maxLen; omega, fun i => (BlE.cs (rows[i]!)).toArray, Or.inr ⟨g, 0, rfl, Nat.zero_le _, hltH hh, fun h0 => absurd h0 (Nat.lt_irrefl _), fun i hi => ⟨rfl, fun j hj => ?_⟩⟩, fun i hi => ?_⟩
  · have := hx i (by omega) j hj
    simp only [World.cell?, hh, Nat.zero_add, getElem!_pos rows i (show i < rows.length by omega)]
    rw [show BlE.sz = 5 from rfl] at this
    simpa using this
  · have hi' : i < rows.length := by omega
    obtain ⟨h1, h2, h3⟩ := hr i hi'
    have e : (rowB bs L)[i] = rows[i].2.2 := by
      rw [h1]
      simp only [rowB, List.getElem_map, getElem!_pos L i (show i < L.length by omega)]
    rw [e]
    simp only [getElem!_pos rows i hi']
    exact ⟨_, _, rfl, h2, (h3.stays InsKeeps bel).mono InsKeeps (Nat.zero_le _)⟩
theorem rowB_fits {sizes : List Int} {p q r : Int} {bs : List Blk} {L : List Int} (h : Fits ⟨sizes, p, q, r, bs⟩) (hL : Inn bs.length L) (hn : L.length ≤ 300) : Fits ⟨sizes, p, q, r, rowB bs L⟩ := by
  have hlen : (rowB bs L).length = L.length := by simp [rowB]
  refine ⟨h.1, by simp only [hlen]; omega, fun i hi => ?_⟩
  simp only at hi
  have hi' : i < L.length := by omega
  have hz := hL _ (List.getElem_mem hi')
  have hzb : L[i].toNat < bs.length := by have := hz.1; have := hz.2; omega
  have e : ((rowB bs L)[i]).code = (bs[L[i].toNat]).code := by
    simp only [rowB, List.getElem_map, reB_code, getElem!_pos bs L[i].toNat hzb]
  simp only [e]
  exact h.2.2 _ hzb
theorem tell_eta (T : Int → Int) (b : Blk) : (⟨b.code, b.jump, b.a, (tellB T b).to, (tellB T b).els⟩ : Blk) = tellB T b := by
  unfold tellB
  split
  · rfl
  · split <;> rfl
theorem tell_wf {T : Int → Int} {b : Blk} (h : ∀ n, toldOf b n → I64 (T n)) (hw : b.wf) : (tellB T b).wf := by
  unfold tellB
  split
  · rename_i h1
    exact ⟨hw.1, hw.2.1, h _ (Or.inr ⟨Or.inr h1, rfl⟩), h _ (Or.inl ⟨h1, rfl⟩)⟩
  · split
    · rename_i h0
      exact ⟨hw.1, hw.2.1, h _ (Or.inr ⟨Or.inl h0, rfl⟩), hw.2.2.2⟩
    · exact hw
/-- The contract of withBlocks' closure. -/
theorem wbClo_any (N : List Int) (n : Int) (W : World) (q row : Nat) (hq : W.heap[q]? = some (.cells #[.slice (some ⟨row, 0, none⟩) N.length N.length] 22 (0, 0))) (hN : NumIs W row N) (hn : InR N.length n) :
    Calls Try.prog 55 #[.int .i64 n, .pointer (some ⟨q, 0, none⟩)] W fun e w' => e = .returned (.int .i64 (N[n.toNat]!)) ∧ Below W.heap.size W w' := by
  obtain ⟨k, rfl⟩ : ∃ k : Nat, n = (k : Int) := ⟨n.toNat, by have := hn.1; omega⟩
  have hk : k < N.length := by have := hn.2; omega
  have c0 := (cells_of hq).1 0
  simp at c0
  obtain ⟨n0, _⟩ := hN.at hk
  rw [Int.toNat_natCast]
  obtain ⟨u, hu⟩ : ∃ u, N[k]! = u := ⟨_, rfl⟩
  rw [hu] at n0 ⊢
  have i0 : (0 : Int) ≤ (k : Int) := by omega
  have i1 : (k : Int) < (N.length : Int) := by omega
  clear hn hq hu
  go_enter Try.func55, Try.ntmps55
  go_wp2
  go_ret
  exact ⟨rfl, Below.refl _ _⟩
set_option maxRecDepth 100000 in
set_option maxHeartbeats 8000000 in
theorem withBlocks_any (x : Gr) (L : List Int) (w : World) (B B2 : Nat) (v : Array Value) (ul : Option Addr) (kl : Nat) (h : GrIs w B v x) (hl : IntsIs w B2 ul L) (hok : grOk x = true) (hL : Inn x.blocks.length L) (hn : L.length ≤ 300) (hf : Fits x) :
    Calls Try.prog 35 #[.agg v, .slice ul L.length kl] w fun en w' => MadeGr w { x with blocks := rowB x.blocks L } en w' := by
  have hbl : x.blocks.length ≤ 300 := by simp only [grOk, Bool.and_eq_true, decide_eq_true_eq] at hok; omega
  have JT := hideP (fun (b : Blk) (hb : b ∈ x.blocks) => And.intro (jump_to hok hb) (And.intro (jump_els hok hb) (jump_three hok hb)))
  obtain ⟨sizes, p, q, r, blocks⟩ := x
  obtain ⟨us, cs, ub, cb, rfl, hwf, hs, hb⟩ := h
  simp only at *
  have HS := hideP hs
  have HB := hideP hb
  have HL := hideP hl
  have HI := hideP hL
  have HF := hideP hf
  have HWF := hideP hwf
  have hmk := make_n (P := Try.prog) Try.underlying22 infoI blocks.length (by omega) (by decide)
  rw [Nat.mul_one] at hmk
  have W0 : Hid (WB w #[.slice us sizes.length cs, .int .i64 p, .int .i64 q, .int .i64 r, .slice ub blocks.length cb] (numF blocks.length L 0) ((((w.alloc (.cells #[.slice us sizes.length cs, .int .i64 p, .int .i64 q, .int .i64 r, .slice ub blocks.length cb] 30)).alloc (.cells #[.slice none 0 0, .int .i64 0, .int .i64 0, .int .i64 0, .slice none 0 0] 30)).alloc (.cells (madeCells #[Value.int .i64 0] blocks.length) 3)).alloc (.cells #[.slice (some ⟨w.heap.size + 2, 0, none⟩) blocks.length blocks.length] 22))) := by
    have th := three (Below.refl (((w.alloc (.cells #[.slice us sizes.length cs, .int .i64 p, .int .i64 q, .int .i64 r, .slice ub blocks.length cb] 30)).alloc (.cells #[.slice none 0 0, .int .i64 0, .int .i64 0, .int .i64 0, .slice none 0 0] 30)).alloc (.cells (madeCells #[Value.int .i64 0] blocks.length) 3)).heap.size (((w.alloc (.cells #[.slice us sizes.length cs, .int .i64 p, .int .i64 q, .int .i64 r, .slice ub blocks.length cb] 30)).alloc (.cells #[.slice none 0 0, .int .i64 0, .int .i64 0, .int .i64 0, .slice none 0 0] 30)).alloc (.cells (madeCells #[Value.int .i64 0] blocks.length) 3)))
    have nm := num_made ((w.alloc (.cells #[.slice us sizes.length cs, .int .i64 p, .int .i64 q, .int .i64 r, .slice ub blocks.length cb] 30)).alloc (.cells #[.slice none 0 0, .int .i64 0, .int .i64 0, .int .i64 0, .slice none 0 0] 30)) blocks.length
    have al := (Below.refl (((w.alloc (.cells #[.slice us sizes.length cs, .int .i64 p, .int .i64 q, .int .i64 r, .slice ub blocks.length cb] 30)).alloc (.cells #[.slice none 0 0, .int .i64 0, .int .i64 0, .int .i64 0, .slice none 0 0] 30)).alloc (.cells (madeCells #[Value.int .i64 0] blocks.length) 3)).heap.size (((w.alloc (.cells #[.slice us sizes.length cs, .int .i64 p, .int .i64 q, .int .i64 r, .slice ub blocks.length cb] 30)).alloc (.cells #[.slice none 0 0, .int .i64 0, .int .i64 0, .int .i64 0, .slice none 0 0] 30)).alloc (.cells (madeCells #[Value.int .i64 0] blocks.length) 3))).alloc (Nat.le_refl _) (.cells #[.slice (some ⟨w.heap.size + 2, 0, none⟩) blocks.length blocks.length] 22)
    have hz : (((w.alloc (.cells #[.slice us sizes.length cs, .int .i64 p, .int .i64 q, .int .i64 r, .slice ub blocks.length cb] 30)).alloc (.cells #[.slice none 0 0, .int .i64 0, .int .i64 0, .int .i64 0, .slice none 0 0] 30)).alloc (.cells (madeCells #[Value.int .i64 0] blocks.length) 3)).heap.size = w.heap.size + 3 := by simp
    have nn := blk_newG (((w.alloc (.cells #[.slice us sizes.length cs, .int .i64 p, .int .i64 q, .int .i64 r, .slice ub blocks.length cb] 30)).alloc (.cells #[.slice none 0 0, .int .i64 0, .int .i64 0, .int .i64 0, .slice none 0 0] 30)).alloc (.cells (madeCells #[Value.int .i64 0] blocks.length) 3)) (.cells #[.slice (some ⟨w.heap.size + 2, 0, none⟩) blocks.length blocks.length] 22)
    rw [hz] at nn
    refine ⟨(al.block _ (hltH th.1)).trans th.1, (al.block _ (hltH th.2.1)).trans th.2.1, ?_, by simpa [numF] using nn, below_trans (below3 _ _ _ _) al, by simp⟩
    have nm2 : NumIs (((w.alloc (.cells #[.slice us sizes.length cs, .int .i64 p, .int .i64 q, .int .i64 r, .slice ub blocks.length cb] 30)).alloc (.cells #[.slice none 0 0, .int .i64 0, .int .i64 0, .int .i64 0, .slice none 0 0] 30)).alloc (.cells (madeCells #[Value.int .i64 0] blocks.length) 3)) (w.heap.size + 2) (numF blocks.length L 0) := by simpa [numF] using nm
    exact nm2.keep (al.block _ (by rw [hz]; omega))
  clear hs hb hl hL hf hwf hok
  go_enter Try.func35, Try.ntmps35
  go_wp2
  clear hmk
  go_loopg [17] L.length (fun gk ix wr => ∃ j : Nat, gk + j = L.length ∧ ix = .int .i64 j ∧ Hid (WB w #[.slice us sizes.length cs, .int .i64 p, .int .i64 q, .int .i64 r, .slice ub blocks.length cb] (numF blocks.length L j) wr))
  case atStart => exact ⟨0, rfl, rfl, by simpa using W0⟩
  case round =>
    obtain ⟨j, hgk, rfl, hW⟩ := hrel
    clear W0
    by_cases hlt : j < L.length
    · obtain ⟨b, o, rfl, _, hb, c0⟩ := (HL.out.stays hW.out.bel).get j hlt
      have hz := HI.out _ (List.getElem_mem hlt)
      obtain ⟨z, hzl⟩ : ∃ z : Nat, L[j] = (z : Int) := ⟨L[j].toNat, by have := hz.1; omega⟩
      rw [hzl] at c0 hz
      have hzb : z < blocks.length := by have := hz.2; omega
      obtain ⟨n0, f0⟩ := hW.out.num.at (i := z) (by rw [numF_len]; exact hzb)
      have m0 := (cells_of hW.out.nb).1 0
      rw [numF_len] at m0
      simp at m0
      have W1 : Hid (WB w #[.slice us sizes.length cs, .int .i64 p, .int .i64 q, .int .i64 r, .slice ub blocks.length cb] (numF blocks.length L (j + 1)) (wr.setCell ⟨w.heap.size + 2, z, none⟩ (.int .i64 (j : Int)))) := by
        have := hW.out.put z (j : Int)
        rw [numF, getElem!_pos L j hlt, hzl]
        exact this
      clear hzl hz hW
      go_wp2
      go_roundg (L.length - (j + 1))
      case rel => exact ⟨j + 1, by omega, by go_num, W1.out⟩
      case measure => omega
    · have hjn : j = L.length := by omega
      subst hjn
      obtain ⟨N, hN⟩ : ∃ N, numF blocks.length L L.length = N := ⟨_, rfl⟩
      have hNl : N.length = blocks.length := by rw [← hN]; exact numF_len _ _ _
      have HN : Hid (∀ z ∈ N, I64 z) := by rw [← hN]; exact numF_i64 _ _ _ (by omega)
      rw [hN] at hW
      have HNE := hideP hN
      have al := (Below.refl wr.heap.size wr).alloc (Nat.le_refl _) (.cells #[] 55)
      have W2 := hideP (hW.out.stays al)
      have O2 := hideP ((own_nil BlE_ok wr wr.heap.size rfl).mono hW.out.big)
      clear al hN
      go_wp2
      go_loopg [8, 30] L.length (fun gk qv ix wr => ∃ rows : List BRow, gk + rows.length = L.length ∧ ix = .int .i64 rows.length ∧ Hid (WB w #[.slice us sizes.length cs, .int .i64 p, .int .i64 q, .int .i64 r, .slice ub blocks.length cb] N wr) ∧ Hid (OwnE BlE wr (w.heap.size + 4) qv rows) ∧ Hid (RowsOk w B blocks L rows))
      case atStart => exact ⟨[], rfl, rfl, W2.out, O2.out, fun i hi => absurd hi (Nat.not_lt_zero _)⟩
      case round =>
        obtain ⟨rows, hgk, rfl, hW, ho, hR⟩ := hrel
        clear W2 O2
        by_cases hlt : rows.length < L.length
        · obtain ⟨bl, ol, rfl, _, hbl2, c0⟩ := (HL.out.stays hW.out.bel).get rows.length hlt
          have hz := HI.out _ (List.getElem_mem hlt)
          obtain ⟨z, hzl⟩ : ∃ z : Nat, L[rows.length] = (z : Int) := ⟨L[rows.length].toNat, by have := hz.1; omega⟩
          rw [hzl] at c0 hz
          have hzb : z < blocks.length := by have := hz.2; omega
          obtain ⟨b, o, code, jump, a, t0, els, ux, kx, rfl, _, hbb, hx, q0, q1, q2, q3, q4, hbX⟩ := Blk_get HB.out z hzb
          have hbb2 := Nat.lt_of_lt_of_le hbb hW.out.bel.size
          replace q0 := (hW.out.bel.cell (p := ⟨b, _, none⟩) hbb).trans q0
          replace q1 := (hW.out.bel.cell (p := ⟨b, _, none⟩) hbb).trans q1
          replace q2 := (hW.out.bel.cell (p := ⟨b, _, none⟩) hbb).trans q2
          replace q3 := (hW.out.bel.cell (p := ⟨b, _, none⟩) hbb).trans q3
          replace q4 := (hW.out.bel.cell (p := ⟨b, _, none⟩) hbb).trans q4
          have CI : Hid (SlIs InsIs 7 w B ux code) := by
            obtain ⟨uc, cc, e, _, hc⟩ := hbX
            simp at e
            rw [e.1]; exact hc
          have WF : Hid ((⟨code, jump, a, t0, els⟩ : Blk).wf) := by obtain ⟨_, _, _, hw, _⟩ := hbX; exact hw
          have hj3 := JT.out blocks[z] (List.getElem_mem hzb)
          rw [hx] at hj3
          simp only at hj3
          have TR : Hid (∀ n, toldOf ⟨code, jump, a, t0, els⟩ n → InR N.length n) := fun n hn => by
            rw [hNl]
            rcases hn with ⟨h1, rfl⟩ | ⟨h1, rfl⟩
            · exact hj3.2.1 h1
            · exact hj3.1 h1
          have TW : Hid ((tellB (fun y => N[y.toNat]!) ⟨code, jump, a, t0, els⟩).wf) := tell_wf (fun n hn => by
            have h1 := TR.out n hn
            have h2 := h1.1
            have h3 := h1.2
            rw [getElem!_pos N n.toNat (by omega)]
            exact HN.out _ (List.getElem_mem _)) WF.out
          have CN := hideP (withNext_any (fun y => N[y.toNat]!) code jump a t0 els wr ux kx (w.heap.size + 3) (fun n W hW2 hn => wbClo_any N n W (w.heap.size + 3) (w.heap.size + 2) ((hW2.block _ (hltH hW.out.nb)).trans hW.out.nb) (hW.out.num.keep (hW2.block _ (by have := hW.out.big; omega))) (TR.out n hn)))
          have TE := tell_eta (fun y => N[y.toNat]!) ⟨code, jump, a, t0, els⟩
          obtain ⟨yt, hyt⟩ : ∃ z, (tellB (fun y => N[y.toNat]!) ⟨code, jump, a, t0, els⟩).to = z := ⟨_, rfl⟩
          obtain ⟨ye, hye⟩ : ∃ z, (tellB (fun y => N[y.toNat]!) ⟨code, jump, a, t0, els⟩).els = z := ⟨_, rfl⟩
          rw [hyt, hye] at TE CN
          simp only at TE
          have RE : Hid ((⟨code, jump, a, yt, ye⟩ : Blk) = reB (numF blocks.length L L.length) (blocks[(L[rows.length]!).toNat]!) ∧ (⟨code, jump, a, yt, ye⟩ : Blk).wf) := by
            refine ⟨?_, by rw [TE]; exact TW.out⟩
            rw [TE, HNE.out, getElem!_pos L _ hlt, hzl, Int.toNat_natCast, getElem!_pos blocks z hzb, hx]
            rfl
          obtain ⟨gq, cq, rfl, _⟩ := id ho.out
          have b4 := (cells_of hW.out.box).1 4
          simp at b4
          have hrl : rows.length ≤ 300 := by omega
          clear TR TW TE hyt hye hj3 hx hzl hz hbX WF
          go_wp2_with fail
          refine CN.out.mono ?_
          rintro e5 w5 ⟨rfl, b5⟩
          have OA0 := hideP (ho.out.stays b5)
          have WA0 := hideP (hW.out.stays b5)
          clear b5 CN hW ho c0 q0 q1 q2 q3 q4 b4
          have al := (Below.refl w5.heap.size w5).alloc (Nat.le_refl _) (.cells #[.slice ux code.length kx, .int .i64 jump, .int .i64 a, .int .i64 yt, .int .i64 ye] 55)
          have CQ : Hid (∀ r, r < BlE.sz → (w5.alloc (.cells #[.slice ux code.length kx, .int .i64 jump, .int .i64 a, .int .i64 yt, .int .i64 ye] 55)).cell? ⟨w5.heap.size, 0 + r, none⟩ = (BlE.cs (ux, kx, (⟨code, jump, a, yt, ye⟩ : Blk)))[r]?) := fun r _ => by
            have := (cells_of (heap_alloc_new w5 (.cells #[.slice ux code.length kx, .int .i64 jump, .int .i64 a, .int .i64 yt, .int .i64 ye] 55))).1 r
            rw [Nat.zero_add, this]; simp [BlE]
          have OA := hideP (OA0.out.stays al)
          have WA := hideP (WA0.out.stays al)
          have hsz1 : Hid (w.heap.size + 4 ≤ (w5.alloc (.cells #[.slice ux code.length kx, .int .i64 jump, .int .i64 a, .int .i64 yt, .int .i64 ye] 55)).heap.size) := WA.out.big
          clear al OA0 WA0
          go_upto_region 12 with (at_builtin; refine list_appE BlE_ok _ rfl _ _ rfl (w.heap.size + 4) _ rows (ux, kx, (⟨code, jump, a, yt, ye⟩ : Blk)) w5.heap.size 0 1 rfl rfl OA.out CQ.out (by omega) hsz1.out ?_; intro v6 w6 o6 grow6 loc6)
          have O6 := hideP o6
          have W6 := hideP (WA.out.grown grow6 (fun k hk => (OA.out.low k hk).1))
          have R6 := hideP (hR.out.snoc (x := (ux, kx, (⟨code, jump, a, yt, ye⟩ : Blk))) RE.out.1 RE.out.2 CI.out)
          obtain ⟨g6, c6, rfl, _⟩ := id o6
          clear o6 grow6 loc6 OA WA CQ hR
          go_wp2
          go_roundg (L.length - (rows.length + 1))
          case rel => exact ⟨rows ++ [(ux, kx, (⟨code, jump, a, yt, ye⟩ : Blk))], by simp; omega, by simp only [List.length_append, List.length_singleton]; go_num, W6.out, O6.out, R6.out⟩
          case measure => omega
        · have hE : rows.length = L.length := by omega
          obtain ⟨gq, cq, rfl, _⟩ := id ho.out
          obtain ⟨R, hRR⟩ : ∃ R, rowB blocks L = R := ⟨_, rfl⟩
          have hRr : R.length = rows.length := by rw [← hRR, hE]; simp [rowB]
          have FT := hideP (rowB_fits HF.out HI.out hn)
          rw [hRR] at FT
          have hX := hW.out.box
          have c0 := (cells_of hX).1 0
          have c1 := (cells_of hX).1 1
          have c2 := (cells_of hX).1 2
          have c3 := (cells_of hX).1 3
          have c4 := (cells_of hX).1 4
          have cf := (cells_of hX).2
          simp at c0 c1 c2 c3 c4
          have hgq := (ho.out.low gq rfl)
          have BW : Below w.heap.size w (wr.setCell ⟨w.heap.size, 4, none⟩ (.slice (some ⟨gq, 0, none⟩) rows.length cq)) := hW.out.bel.setCell (p := ⟨w.heap.size, 4, none⟩) (Nat.le_refl _) _
          have OW : OwnE BlE (wr.setCell ⟨w.heap.size, 4, none⟩ (.slice (some ⟨gq, 0, none⟩) rows.length cq)) (w.heap.size + 4) (.slice (some ⟨gq, 0, none⟩) rows.length cq) rows := ho.out.blk (fun k hk hkl => Below.heap_setCell wr ⟨w.heap.size, 4, none⟩ _ k (by have := ho.out.low k hk; simp only; omega))
          have GI : GrIs (wr.setCell ⟨w.heap.size, 4, none⟩ (.slice (some ⟨gq, 0, none⟩) rows.length cq)) 0 #[.slice us sizes.length cs, .int .i64 p, .int .i64 q, .int .i64 r, .slice (some ⟨gq, 0, none⟩) rows.length cq] ⟨sizes, p, q, r, R⟩ := ⟨us, cs, some ⟨gq, 0, none⟩, cq, by simp only [hRr], HWF.out, (HS.out.stays BW).mono (Nat.zero_le _), by rw [← hRR]; exact rows_is OW hR.out hE hn BW⟩
          have CG := hideP (graphCopy_any _ _ 0 _ GI FT.out)
          have RS := hideP ((Below.heap_setCell wr ⟨w.heap.size, 4, none⟩ (.slice (some ⟨gq, 0, none⟩) rows.length cq) (w.heap.size + 1) (by simp only; omega)).trans hW.out.res)
          have SZ : (wr.setCell ⟨w.heap.size, 4, none⟩ (.slice (some ⟨gq, 0, none⟩) rows.length cq)).heap.size = wr.heap.size := size_set _ _ _
          have HSZ := hideP SZ
          have hbig := hW.out.big
          have BW2 := hideP BW
          clear OW GI BW hX SZ hgq
          rw [hE] at CG RS HSZ BW2
          go_wp2_with fail
          refine CG.out.mono ?_
          rintro e3 w3 ⟨v3, S, g3, cs3, rfl, gi, ow, lo, n1, n2, n3, bel⟩
          obtain ⟨us3, ks3, ub3, kb3, rfl, _⟩ := id gi
          simp only at gi ow n1 n2 n3 ⊢
          have z := (bel.block _ (hltH RS.out)).trans RS.out
          have r0 := (cells_of z).1 0
          have r1 := (cells_of z).1 1
          have r2 := (cells_of z).1 2
          have r3 := (cells_of z).1 3
          have r4 := (cells_of z).1 4
          have rf := (cells_of z).2
          simp at r0 r1 r2 r3 r4
          have z0 := heap_setCell_same w3 _ 0 _ _ (.slice us3 sizes.length ks3) z
          have z1 := heap_setCell_same _ _ 1 _ _ (.int .i64 p) z0
          have z2 := heap_setCell_same _ _ 2 _ _ (.int .i64 q) z1
          have z3 := heap_setCell_same _ _ 3 _ _ (.int .i64 r) z2
          have z4 : (((((w3.setCell ⟨w.heap.size + 1, 0, none⟩ (.slice us3 sizes.length ks3)).setCell ⟨w.heap.size + 1, 1, none⟩ (.int .i64 p)).setCell ⟨w.heap.size + 1, 2, none⟩ (.int .i64 q)).setCell ⟨w.heap.size + 1, 3, none⟩ (.int .i64 r)).setCell ⟨w.heap.size + 1, 4, none⟩ (.slice ub3 R.length kb3)).heap[w.heap.size + 1]? = some (.cells #[.slice us3 sizes.length ks3, .int .i64 p, .int .i64 q, .int .i64 r, .slice ub3 R.length kb3] 30 (0, 0)) := heap_setCell_same _ _ 4 _ _ (.slice ub3 R.length kb3) z3
          have ZF := hideP z4
          have BU := hideP (((((But.refl (w.heap.size + 1) w3).set 0 (.slice us3 sizes.length ks3)).set 1 (.int .i64 p)).set 2 (.int .i64 q)).set 3 (.int .i64 r) |>.set 4 (.slice ub3 R.length kb3))
          have HG := hideP gi
          have HO := hideP ow
          have LO := hideP lo
          have NN : Hid (S.n = sizes.length ∧ cs3.length = R.length ∧ ∀ i (h : i < cs3.length), cs3[i].n = (R[i]!).code.length) := ⟨n1, n2, n3⟩
          have BB := hideP bel
          have HRr := hideP hRr
          have HE := hideP hE
          have HRR := hideP hRR
          clear z z0 z1 z2 z3 z4 gi ow lo n1 n2 n3 bel c0 c1 c2 c3 c4 cf CG RS hRr hE hRR
          go_wp2
          refine bodyPost_ret (results_cell_row rfl _ _ (w.heap.size + 1) 30 #[.slice us3 sizes.length ks3, .int .i64 p, .int .i64 q, .int .i64 r, .slice ub3 R.length kb3] (0, 0) _ rfl ZF.out Try.underlying30 rfl (by kernel_rfl)) rfl ?_
          have hsz := HSZ.out
          have hb3 := BB.out.size
          rw [HRR.out]
          refine ⟨_, S, g3, cs3, rfl, GrKeeps.mono (GrKeeps.but HG.out (by omega) BU.out) (by omega), HO.out.above (B := wr.heap.size) (fun c hc => by have := (LO.out c hc).1; omega) (fun k hk hkl => BU.out.block k hkl (by omega)), fun c hc => ?_, NN.out.1, NN.out.2.1, NN.out.2.2, (below_trans BW2.out BB.out).trans (BU.out.below (by omega) (by omega))⟩
          have := LO.out c hc
          have := BU.out.size
          omega
end Go.Proofs.YtobpcfelgobedaaR
