/- The specification's slots: their list, the contracts of Bin, l06Start, l06Bin. -/
import Derived.Test.YtgiboadcfnfooabAliP
import Derived.Test.YtgiboadcfnfooabOwnG
import Derived.BigQuiet
import Derived.Deep.LoopGhost
import Derived.Deep.CutRange
namespace Go.Proofs.Ytgiboadcfnfooab
open Go.ChangeShapes Go.WideShapes Go.ChangeAt Go.RowKit
def SyE : Elem Sym := { T := 51, ST := 47, sz := 2, bys := 16, z := .agg #[.int .i64 0, .int .i64 0], cs := fun s => [.int .i64 s.base, .int .i64 s.off] }
theorem SyOk : SyE.Ok where
  und := Try.underlying47
  info := by kernel_rfl
  zs := rfl
  pos := by decide
  few := by decide
  len := fun _ => rfl
  one := fun x u hu => by simp [SyE] at hu; rcases hu with rfl | rfl <;> rfl
/-- The cells of slot n. -/
theorem sy_at {w : World} {B g n cap : Nat} {l : List Sym} (h : OwnE SyE w B (.slice (some ⟨g, 0, none⟩) n cap) l) (j : Nat) (hj : j < l.length) :
    w.cell? ⟨g, j * 2, none⟩ = some (.int .i64 l[j].base) ∧ w.cell? ⟨g, j * 2 + 1, none⟩ = some (.int .i64 l[j].off) ∧ w.frozen? ⟨g, j * 2, none⟩ = false ∧ w.frozen? ⟨g, j * 2 + 1, none⟩ = false ∧ g < w.heap.size := by
  have h0 := h.at SyOk j hj 0 (by decide)
  have h1 := h.at SyOk j hj 1 (by decide)
  obtain ⟨g', cap', cur, hv, _, hh, _⟩ := h.parts SyOk
  cases hv
  simp [SyE] at h0 h1
  exact ⟨h0, h1, by simp [World.frozen?, hh], by simp [World.frozen?, hh], (Array.getElem?_eq_some_iff.1 hh).1⟩
theorem sy_set {w : World} {B g cap n : Nat} {l : List Sym} (h : OwnE SyE w B (.slice (some ⟨g, 0, none⟩) n cap) l) (j : Nat) (hj : j < l.length) (s : Sym) :
    OwnE SyE ((w.setCell ⟨g, j * 2, none⟩ (.int .i64 s.base)).setCell ⟨g, j * 2 + 1, none⟩ (.int .i64 s.off)) B (.slice (some ⟨g, 0, none⟩) n cap) (l.set j s) := by
  obtain ⟨g', cap', cur, hv, hB, hh, hc, hm, hs, hx⟩ := h.parts SyOk
  cases hv
  have h1 := heap_setCell_same w g (j * 2) cur _ (.int .i64 s.base) hh
  have h2 := heap_setCell_same _ g (j * 2 + 1) _ _ (.int .i64 s.off) h1
  have hsz : cur.size = cap * 2 := hs
  have := OwnE.of_parts SyOk (l := l.set j s) hB h2 (by simpa using hc) hm (by simpa using hs) (fun k hk r hr => by
    have hk' : k < l.length := by simpa using hk
    have hr' : r < 2 := hr
    have old : cur[k * 2 + r]? = (SyE.cs l[k])[r]? := hx k hk' r hr
    show ((cur.setIfInBounds (j * 2) _).setIfInBounds (j * 2 + 1) _)[k * 2 + r]? = _
    rw [Array.getElem?_setIfInBounds, Array.getElem?_setIfInBounds, List.getElem_set]
    by_cases e : j = k
    · subst e
      rcases (by omega : r = 0 ∨ r = 1) with rfl | rfl
      · simp [SyE, show j * 2 < cur.size by omega]
      · simp [SyE, show j * 2 + 1 < cur.size by omega]
    · rw [if_neg (by omega), if_neg (by omega), if_neg e]; exact old)
  simpa using this
set_option maxHeartbeats 1000000 in
theorem specBin_any (s : ByteArray) (a b : Int) (w : World) :
    Calls Try.prog 71 #[.string s, .int .i64 a, .int .i64 b] w fun e w' => e = .returned (.int .i64 (binL s.toList a b)) ∧ w' = w := by
  go_enter Try.func71, Try.ntmps71
  go_wp2
  all_goals first | (simp_all; done) | skip
  all_goals go_ret
  all_goals refine ⟨ret_int ?_, rfl⟩
  all_goals simp only [binL, *, if_true, if_false, Bool.false_eq_true]
  all_goals first | rfl | (rw [if_pos (by omega)]; done) | (rw [if_neg (by omega)]; done) | skip
theorem symUp_at (V j : Nat) (h : j < V) : ((ledStart V).slots.take (j + 1)) = (ledStart V).slots.take j ++ [⟨(j : Int), 0⟩] := by
  rw [List.take_succ_eq_append_getElem (by simpa [ledStart] using h)]
  simp [ledStart]
set_option maxRecDepth 100000 in
set_option maxHeartbeats 2000000 in
theorem l06Start_any (V : Nat) (w : World) (hV : V ≤ 1000) :
    Calls Try.prog 45 #[.int .i64 (V : Int)] w fun e w' => ∃ v', e = .returned v' ∧ OwnE SyE w' w.heap.size v' (ledStart V).slots ∧ Below w.heap.size w w' := by
  have O0 := hideP (own_nil SyOk w w.heap.size rfl)
  have al := hideP ((Below.refl w.heap.size w).alloc (Nat.le_refl _) (.cells #[] 51))
  have hlen : (ledStart V).slots.length = V := by simp [ledStart]
  go_enter Try.func45, Try.ntmps45
  go_wp2
  go_loopg [3, 4] V (fun gk o i wr => ∃ j : Nat, gk + j = V ∧ i = .int .i64 j ∧ Hid (OwnE SyE wr w.heap.size o ((ledStart V).slots.take j)) ∧ Hid (Below w.heap.size w wr))
  case atStart => exact ⟨0, rfl, rfl, by rw [List.take_zero]; exact O0.out, al.out⟩
  case round =>
    obtain ⟨j, hj, rfl, ho, hb⟩ := hrel
    clear O0 al
    by_cases hlt : j < V
    · obtain ⟨gO, cO, rfl, _⟩ := id ho.out
      have UP := hideP (symUp_at V j hlt)
      have hl : ((ledStart V).slots.take j).length = j := by rw [List.length_take]; omega
      have al := (Below.refl wr.heap.size wr).alloc (Nat.le_refl _) (.cells #[.int .i64 (j : Int), .int .i64 0] 51)
      have OA := hideP (ho.out.stays al)
      have BA := hideP (below_trans hb.out al)
      have CQ : Hid (∀ r, r < SyE.sz → (wr.alloc (.cells #[.int .i64 (j : Int), .int .i64 0] 51)).cell? ⟨wr.heap.size, 0 + r, none⟩ = (SyE.cs ⟨(j : Int), 0⟩)[r]?) := fun r _ => by
        have := (cells_of (heap_alloc_new wr (.cells #[.int .i64 (j : Int), .int .i64 0] 51))).1 r
        rw [Nat.zero_add, this]; simp [SyE]
      clear al
      go_upto_region 4 with (at_builtin; refine list_appE SyOk _ rfl _ _ rfl w.heap.size _ ((ledStart V).slots.take j) ⟨(j : Int), 0⟩ wr.heap.size 0 1 rfl rfl OA.out CQ.out (by omega) BA.out.size ?_; intro v6 w6 o6 grow6 loc6)
      replace grow6 : World.grownBy _ w6 ((Value.slice (some ⟨gO, 0, none⟩) ((ledStart V).slots.take j).length cO).ownBlock) := grow6
      rw [← UP.out] at o6
      have O6 := hideP o6
      have B6 := hideP (BA.out.grown grow6 BA.out.size (fun b' hb' => (OA.out.low b' hb').1))
      obtain ⟨g6, c6, rfl, _⟩ := id O6.out
      clear o6 grow6 loc6 OA BA CQ UP
      go_wp2
      go_roundg (V - (j + 1))
      case rel => exact ⟨j + 1, by omega, by go_num, O6.out, B6.out⟩
      case measure => omega
    · have hjn : j = V := by omega
      subst hjn
      go_wp2
      go_ret
      refine ⟨_, rfl, ?_, hb.out⟩
      have := ho.out
      rwa [List.take_of_length_le (by omega)] at this
def symR (o : Option Sym) : Value := .tuple #[.agg #[.int .i64 (o.getD ⟨0, 0⟩).base, .int .i64 (o.getD ⟨0, 0⟩).off], .bool o.isSome]
set_option maxRecDepth 100000 in
set_option maxHeartbeats 4000000 in
theorem l06Bin_any (t : ByteArray) (ba oa bb ob : Int) (w : World) :
    Calls Try.prog 59 #[.string t, .agg #[.int .i64 ba, .int .i64 oa], .agg #[.int .i64 bb, .int .i64 ob]] w fun e w' => e = .returned (symR (symBin t.toList ⟨ba, oa⟩ ⟨bb, ob⟩)) ∧ Below w.heap.size w w' := by
  by_cases ha : (ba == -1) = true
  · go_enter Try.func59, Try.ntmps59
    go_wp2_with (go_at_call 71; refine (specBin_any t oa ob _).mono ?_; rintro e1 w1 ⟨rfl, rfl⟩)
    all_goals try (try simp only [Exit.inBlock, Exit.then])
    all_goals
      refine bodyPost_ret (v := symR (symBin t.toList ⟨ba, oa⟩ ⟨bb, ob⟩)) ?_ rfl ⟨rfl, below3 w _ _ _⟩
      simp_all [symBin, symR, results, Try.results59, go_sem]
  · have ha : (ba == -1) = false := by simpa using ha
    go_enter Try.func59, Try.ntmps59
    go_wp2_with (go_at_call 71; refine (specBin_any t oa ob _).mono ?_; rintro e1 w1 ⟨rfl, rfl⟩)
    all_goals try (try simp only [Exit.inBlock, Exit.then])
    all_goals
      refine bodyPost_ret (v := symR (symBin t.toList ⟨ba, oa⟩ ⟨bb, ob⟩)) ?_ rfl ⟨rfl, below3 w _ _ _⟩
      simp_all [symBin, symR, results, Try.results59, go_sem]
end Go.Proofs.Ytgiboadcfnfooab
