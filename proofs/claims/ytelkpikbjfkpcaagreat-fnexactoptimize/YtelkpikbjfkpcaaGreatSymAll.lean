/- The specification's slots: their list, the contracts of Bin, l06Start, l06Bin. -/
import Derived.Test.YtelkpikbjfkpcaaGreatInsA
import Derived.Test.YtelkpikbjfkpcaaGreatOwnA
import Derived.BigQuiet
import Derived.Deep.LoopGhost
import Derived.Deep.CutRange
import Derived.Laws.Rows
import Derived.Deep.RegionHeld3
import Derived.Test.YtelkpikbjfkpcaaGreatCpyB
import Derived.Test.YtelkpikbjfkpcaaGreatAliB
import Derived.Test.YtelkpikbjfkpcaaGreatInstrOkV
namespace Go.Proofs.YtelkpikbjfkpcaaGreat
open Go.ChangeShapes Go.WideShapes Go.ChangeAt Go.RowKit
def SyE : Elem Sym := { T := 150, ST := 94, sz := 2, bys := 16, z := .agg #[.int .i64 0, .int .i64 0], cs := fun s => [.int .i64 s.base, .int .i64 s.off] }
theorem SyOk : SyE.Ok where
  und := Tryz.underlying94
  info := by kernel_rfl
  zs := rfl
  pos := by decide
  few := by decide
  len := fun _ => rfl
  one := fun x u hu => by simp [SyE] at hu; rcases hu with rfl | rfl <;> rfl
/-- The cells of slot n. -/
theorem sy_at {w : World} {B g n cap : Nat} {l : List Sym} (h : OwnE SyE w B (.slice (some ⟨g, 0, none⟩) n cap) l) (j : Nat) (hj : j < l.length) :
    w.cell? ⟨g, j * 2, none⟩ = some (.int .i64 l[j].base) ∧ w.cell? ⟨g, j * 2 + 1, none⟩ = some (.int .i64 l[j].off) ∧ w.frozen? ⟨g, j * 2, none⟩ = false ∧ w.frozen? ⟨g, j * 2 + 1, none⟩ = false ∧ g < w.heap.size := by
  have h0 := h.at SyOk j hj 0 (by decide)
  have h1 := h.at SyOk j hj 1 (by decide)
  obtain ⟨g', cap', cur, hv, _, hh, _⟩ := h.parts SyOk
  cases hv
  simp [SyE] at h0 h1
  exact ⟨h0, h1, by simp [World.frozen?, hh], by simp [World.frozen?, hh], (Array.getElem?_eq_some_iff.1 hh).1⟩
theorem sy_set {w : World} {B g cap n : Nat} {l : List Sym} (h : OwnE SyE w B (.slice (some ⟨g, 0, none⟩) n cap) l) (j : Nat) (hj : j < l.length) (s : Sym) :
    OwnE SyE ((w.setCell ⟨g, j * 2, none⟩ (.int .i64 s.base)).setCell ⟨g, j * 2 + 1, none⟩ (.int .i64 s.off)) B (.slice (some ⟨g, 0, none⟩) n cap) (l.set j s) := by
  obtain ⟨g', cap', cur, hv, hB, hh, hc, hm, hs, hx⟩ := h.parts SyOk
  cases hv
  have h1 := heap_setCell_same w g (j * 2) cur _ (.int .i64 s.base) hh
  have h2 := heap_setCell_same _ g (j * 2 + 1) _ _ (.int .i64 s.off) h1
  have hsz : cur.size = cap * 2 := hs
  have := OwnE.of_parts SyOk (l := l.set j s) hB h2 (by simpa using hc) hm (by simpa using hs) (fun k hk r hr => by
    have hk' : k < l.length := by simpa using hk
    have hr' : r < 2 := hr
    have old : cur[k * 2 + r]? = (SyE.cs l[k])[r]? := hx k hk' r hr
    show ((cur.setIfInBounds (j * 2) _).setIfInBounds (j * 2 + 1) _)[k * 2 + r]? = _
    rw [Array.getElem?_setIfInBounds, Array.getElem?_setIfInBounds, List.getElem_set]
    by_cases e : j = k
    · subst e
      rcases (by omega : r = 0 ∨ r = 1) with rfl | rfl
      · simp [SyE, show j * 2 < cur.size by omega]
      · simp [SyE, show j * 2 + 1 < cur.size by omega]
    · rw [if_neg (by omega), if_neg (by omega), if_neg e]; exact old)
  simpa using this
set_option maxHeartbeats 1000000 in
theorem specBin_any (s : ByteArray) (a b : Int) (w : World) :
    Calls Tryz.prog 72 #[.string s, .int .i64 a, .int .i64 b] w fun e w' => e = .returned (.int .i64 (binL s.toList a b)) ∧ w' = w := by
  go_enter Tryz.func72, Tryz.ntmps72
  go_wp2
  all_goals first | (simp_all; done) | skip
  all_goals go_ret
  all_goals refine ⟨ret_int ?_, rfl⟩
  all_goals simp only [binL, *, if_true, if_false, Bool.false_eq_true]
  all_goals first | rfl | (rw [if_pos (by omega)]; done) | (rw [if_neg (by omega)]; done) | skip
theorem symUp_at (V j : Nat) (h : j < V) : ((ledStart V).slots.take (j + 1)) = (ledStart V).slots.take j ++ [⟨(j : Int), 0⟩] := by
  rw [List.take_succ_eq_append_getElem (by simpa [ledStart] using h)]
  simp [ledStart]
set_option maxRecDepth 100000 in
set_option maxHeartbeats 2000000 in
theorem l06Start_any (V : Nat) (w : World) (hV : V ≤ 1000) :
    Calls Tryz.prog 76 #[.int .i64 (V : Int)] w fun e w' => ∃ v', e = .returned v' ∧ OwnE SyE w' w.heap.size v' (ledStart V).slots ∧ Below w.heap.size w w' := by
  have O0 := hideP (own_nil SyOk w w.heap.size rfl)
  have al := hideP ((Below.refl w.heap.size w).alloc (Nat.le_refl _) (.cells #[] 150))
  have hlen : (ledStart V).slots.length = V := by simp [ledStart]
  go_enter Tryz.func76, Tryz.ntmps76
  go_wp2
  go_loopg [3, 4] V (fun gk o i wr => ∃ j : Nat, gk + j = V ∧ i = .int .i64 j ∧ Hid (OwnE SyE wr w.heap.size o ((ledStart V).slots.take j)) ∧ Hid (Below w.heap.size w wr))
  case atStart => exact ⟨0, rfl, rfl, by rw [List.take_zero]; exact O0.out, al.out⟩
  case round =>
    obtain ⟨j, hj, rfl, ho, hb⟩ := hrel
    clear O0 al
    by_cases hlt : j < V
    · obtain ⟨gO, cO, rfl, _⟩ := id ho.out
      have UP := hideP (symUp_at V j hlt)
      have hl : ((ledStart V).slots.take j).length = j := by rw [List.length_take]; omega
      have al := (Below.refl wr.heap.size wr).alloc (Nat.le_refl _) (.cells #[.int .i64 (j : Int), .int .i64 0] 150)
      have OA := hideP (ho.out.stays al)
      have BA := hideP (below_trans hb.out al)
      have CQ : Hid (∀ r, r < SyE.sz → (wr.alloc (.cells #[.int .i64 (j : Int), .int .i64 0] 150)).cell? ⟨wr.heap.size, 0 + r, none⟩ = (SyE.cs ⟨(j : Int), 0⟩)[r]?) := fun r _ => by
        have := (cells_of (heap_alloc_new wr (.cells #[.int .i64 (j : Int), .int .i64 0] 150))).1 r
        rw [Nat.zero_add, this]; simp [SyE]
      clear al
      go_upto_region 4 with (at_builtin; refine list_appE SyOk _ rfl _ _ rfl w.heap.size _ ((ledStart V).slots.take j) ⟨(j : Int), 0⟩ wr.heap.size 0 1 rfl rfl OA.out CQ.out (by omega) BA.out.size ?_; intro v6 w6 o6 grow6 loc6)
      replace grow6 : World.grownBy _ w6 ((Value.slice (some ⟨gO, 0, none⟩) ((ledStart V).slots.take j).length cO).ownBlock) := grow6
      rw [← UP.out] at o6
      have O6 := hideP o6
      have B6 := hideP (BA.out.grown grow6 BA.out.size (fun b' hb' => (OA.out.low b' hb').1))
      obtain ⟨g6, c6, rfl, _⟩ := id O6.out
      clear o6 grow6 loc6 OA BA CQ UP
      go_wp2
      go_roundg (V - (j + 1))
      case rel => exact ⟨j + 1, by omega, by go_num, O6.out, B6.out⟩
      case measure => omega
    · have hjn : j = V := by omega
      subst hjn
      go_wp2
      go_ret
      refine ⟨_, rfl, ?_, hb.out⟩
      have := ho.out
      rwa [List.take_of_length_le (by omega)] at this
def symR (o : Option Sym) : Value := .tuple #[.agg #[.int .i64 (o.getD ⟨0, 0⟩).base, .int .i64 (o.getD ⟨0, 0⟩).off], .bool o.isSome]
set_option maxRecDepth 100000 in
set_option maxHeartbeats 4000000 in
theorem l06Bin_any (t : ByteArray) (ba oa bb ob : Int) (w : World) :
    Calls Tryz.prog 123 #[.string t, .agg #[.int .i64 ba, .int .i64 oa], .agg #[.int .i64 bb, .int .i64 ob]] w fun e w' => e = .returned (symR (symBin t.toList ⟨ba, oa⟩ ⟨bb, ob⟩)) ∧ Below w.heap.size w w' := by
  by_cases ha : (ba == -1) = true
  · go_enter Tryz.func123, Tryz.ntmps123
    go_wp2_with (go_at_call 72; refine (specBin_any t oa ob _).mono ?_; rintro e1 w1 ⟨rfl, rfl⟩)
    all_goals try (try simp only [Exit.inBlock, Exit.then])
    all_goals
      refine bodyPost_ret (v := symR (symBin t.toList ⟨ba, oa⟩ ⟨bb, ob⟩)) ?_ rfl ⟨rfl, below3 w _ _ _⟩
      simp_all [symBin, symR, results, Tryz.results123, go_sem]
  · have ha : (ba == -1) = false := by simpa using ha
    go_enter Tryz.func123, Tryz.ntmps123
    go_wp2_with (go_at_call 72; refine (specBin_any t oa ob _).mono ?_; rintro e1 w1 ⟨rfl, rfl⟩)
    all_goals try (try simp only [Exit.inBlock, Exit.then])
    all_goals
      refine bodyPost_ret (v := symR (symBin t.toList ⟨ba, oa⟩ ⟨bb, ob⟩)) ?_ rfl ⟨rfl, below3 w _ _ _⟩
      simp_all [symBin, symR, results, Tryz.results123, go_sem]
end Go.Proofs.YtelkpikbjfkpcaaGreat

/- The contract of the specification's l06Place (written by wip/mksymp.py). -/
namespace Go.Proofs.YtelkpikbjfkpcaaGreat
open Go.ChangeShapes Go.WideShapes Go.ChangeAt Go.RowKit
theorem spl_eq {n i j o i' j' o' : Int} (h1 : i = i') (h2 : j = j') (h3 : o = o') : Ending.returned (.agg #[.int .i64 n, .int .i64 i, .int .i64 j, .int .i64 o]) = .returned (.agg #[.int .i64 n, .int .i64 i', .int .i64 j', .int .i64 o']) := by rw [h1, h2, h3]
theorem below4 (w : World) (o1 o2 o3 o4 : Obj) : Below w.heap.size w ((((w.alloc o1).alloc o2).alloc o3).alloc o4) := (below3 w o1 o2 o3).alloc (by simp; omega) _
set_option maxRecDepth 100000 in
set_option maxHeartbeats 4000000 in
theorem l06Place_none (op d c n : Int) (nb : Nat) (t : ByteArray) (l : List Sym) (hop : op = 3 ∨ op = 4) (w : World) (B g m cap : Nat) (h : OwnE SyE w B (.slice (some ⟨g, 0, none⟩) m cap) l) (hm : m = l.length) (hnb : nb < l.length) (bb ob : Int) (eb : l[nb] = ⟨bb, ob⟩) :
    Calls Tryz.prog 77 #[.agg #[.int .i64 op, .int .i64 d, .int .i64 (-1), .int .i64 (nb : Int), .int .i64 c, .int .i64 n, .string t], .slice (some ⟨g, 0, none⟩) m cap] w fun e w' => e = .returned (.agg #[.int .i64 n, .int .i64 (min (-1) bb), .int .i64 (max (-1) bb), .int .i64 (wrap64 (0 + ob))]) ∧ Below w.heap.size w w' := by
  obtain ⟨c0, c1, _, _, hg⟩ := sy_at h nb hnb
  rw [eb] at c0 c1
  simp only at c0 c1
  have hml := hm ▸ hnb
  have hx : m ≤ maxLen := by obtain ⟨_, _, _, hv, _, _, h1, h2, _⟩ := h.parts SyOk; cases hv; omega
  have hmx := maxLen_lt
  have hg1 : g < w.heap.size + 1 := by omega
  have hg2 : g < w.heap.size + 1 + 1 := by omega
  have hg3 : g < w.heap.size + 1 + 1 + 1 := by omega
  have hg4 : g < w.heap.size + 1 + 1 + 1 + 1 := by omega
  clear h eb
  rcases hop with rfl | rfl
  · go_enter Tryz.func77, Tryz.ntmps77
    go_wp2
    go_region
    all_goals go_wp2
    all_goals (try simp only [Exit.inBlock, Exit.then])
    all_goals first | omega | skip
    all_goals
      refine bodyPost_ret (v := .agg #[.int .i64 n, .int .i64 _, .int .i64 _, .int .i64 _]) (by simp [results, Tryz.results77, go_sem]; exact ⟨rfl, rfl, rfl⟩) rfl ⟨?_, (below4 w _ _ _ _).drew⟩
      exact spl_eq (by omega) (by omega) (by first | rfl | simp [Int.add_comm])
  · go_enter Tryz.func77, Tryz.ntmps77
    go_wp2
    go_region
    all_goals go_wp2
    all_goals (try simp only [Exit.inBlock, Exit.then])
    all_goals first | omega | skip
    all_goals
      refine bodyPost_ret (v := .agg #[.int .i64 n, .int .i64 _, .int .i64 _, .int .i64 _]) (by simp [results, Tryz.results77, go_sem]; exact ⟨rfl, rfl, rfl⟩) rfl ⟨?_, (below4 w _ _ _ _).drew⟩
      exact spl_eq (by omega) (by omega) (by first | rfl | simp [Int.add_comm])
set_option maxRecDepth 100000 in
set_option maxHeartbeats 4000000 in
theorem l06Place_some (op d c n : Int) (nb : Nat) (t : ByteArray) (l : List Sym) (hop : op = 3 ∨ op = 4) (w : World) (B g m cap : Nat) (h : OwnE SyE w B (.slice (some ⟨g, 0, none⟩) m cap) l) (hm : m = l.length) (hnb : nb < l.length) (bb ob : Int) (eb : l[nb] = ⟨bb, ob⟩) (na : Nat) (hna : na < l.length) (ba oa : Int) (ea : l[na] = ⟨ba, oa⟩) :
    Calls Tryz.prog 77 #[.agg #[.int .i64 op, .int .i64 d, .int .i64 (na : Int), .int .i64 (nb : Int), .int .i64 c, .int .i64 n, .string t], .slice (some ⟨g, 0, none⟩) m cap] w fun e w' => e = .returned (.agg #[.int .i64 n, .int .i64 (min ba bb), .int .i64 (max ba bb), .int .i64 (wrap64 (oa + ob))]) ∧ Below w.heap.size w w' := by
  obtain ⟨c0, c1, _, _, hg⟩ := sy_at h nb hnb
  rw [eb] at c0 c1
  simp only at c0 c1
  obtain ⟨k0, k1, _, _, _⟩ := sy_at h na hna
  rw [ea] at k0 k1
  simp only at k0 k1
  have hmk := hm ▸ hna
  have hml := hm ▸ hnb
  have hx : m ≤ maxLen := by obtain ⟨_, _, _, hv, _, _, h1, h2, _⟩ := h.parts SyOk; cases hv; omega
  have hmx := maxLen_lt
  have hg1 : g < w.heap.size + 1 := by omega
  have hg2 : g < w.heap.size + 1 + 1 := by omega
  have hg3 : g < w.heap.size + 1 + 1 + 1 := by omega
  have hg4 : g < w.heap.size + 1 + 1 + 1 + 1 := by omega
  clear h eb ea
  rcases hop with rfl | rfl
  · go_enter Tryz.func77, Tryz.ntmps77
    go_wp2
    go_region
    all_goals go_wp2
    all_goals (try simp only [Exit.inBlock, Exit.then])
    all_goals first | omega | skip
    all_goals
      refine bodyPost_ret (v := .agg #[.int .i64 n, .int .i64 _, .int .i64 _, .int .i64 _]) (by simp [results, Tryz.results77, go_sem]; exact ⟨rfl, rfl, rfl⟩) rfl ⟨?_, (below4 w _ _ _ _).drew⟩
      exact spl_eq (by omega) (by omega) (by first | rfl | simp [Int.add_comm])
  · go_enter Tryz.func77, Tryz.ntmps77
    go_wp2
    go_region
    all_goals go_wp2
    all_goals (try simp only [Exit.inBlock, Exit.then])
    all_goals first | omega | skip
    all_goals
      refine bodyPost_ret (v := .agg #[.int .i64 n, .int .i64 _, .int .i64 _, .int .i64 _]) (by simp [results, Tryz.results77, go_sem]; exact ⟨rfl, rfl, rfl⟩) rfl ⟨?_, (below4 w _ _ _ _).drew⟩
      exact spl_eq (by omega) (by omega) (by first | rfl | simp [Int.add_comm])
end Go.Proofs.YtelkpikbjfkpcaaGreat

/- The contracts of the specification's l06Place and l06Step (written by wip/mksymt.py). -/
namespace Go.Proofs.YtelkpikbjfkpcaaGreat
open Go.ChangeShapes Go.WideShapes Go.ChangeAt Go.RowKit
def insW (x : Ins) : Array Value := #[.int .i64 x.op, .int .i64 x.d, .int .i64 x.a, .int .i64 x.b, .int .i64 x.c, .int .i64 x.n, .string x.t]
def plW (p : Pla) : Array Value := #[.int .i64 p.r, .int .i64 p.i, .int .i64 p.j, .int .i64 p.off]
theorem Led.get_atS {l : Led} {n : Nat} (h : n < l.slots.length) : l.get (n : Int) = l.slots[n] := by
  unfold Led.get; rw [show ((n : Int).toNat) = n by omega, getElem!_pos l.slots n h]
theorem vOk_natS {V : Nat} {n : Int} (h : vOk V n = true) : ∃ k : Nat, n = (k : Int) ∧ k < V := by
  have h' : 0 ≤ n ∧ n < V := by simpa [vOk] using h
  exact ⟨n.toNat, by omega, by omega⟩
set_option maxRecDepth 100000 in
set_option maxHeartbeats 2000000 in
theorem l06Place_no (x : Ins) (hop : ¬ (x.op = 3 ∨ x.op = 4)) (w : World) (v : Value) :
    Calls Tryz.prog 77 #[.agg (insW x), v] w fun e w' => e = .returned (.agg #[.int .i64 (-1), .int .i64 0, .int .i64 0, .int .i64 0]) ∧ Below w.heap.size w w' := by
  obtain ⟨op, d, a, b, c, n, t⟩ := x
  simp only [insW] at *
  have h3 : (op != 3) = true := by simp; omega
  have h4 : (op != 4) = true := by simp; omega
  clear hop
  go_enter Tryz.func77, Tryz.ntmps77
  go_wp2
  (try simp only [Exit.inBlock, Exit.then])
  refine bodyPost_ret (v := .agg #[.int .i64 (-1), .int .i64 0, .int .i64 0, .int .i64 0]) (by simp [results, Tryz.results77, go_sem]) rfl ⟨rfl, below2 w _ _⟩
theorem l06Place_any (x : Ins) (l : Led) (R : Int) (w : World) (B g m cap : Nat) (h : OwnE SyE w B (.slice (some ⟨g, 0, none⟩) m cap) l.slots) (hx : insOk R (l.slots.length : Nat) x = true) :
    Calls Tryz.prog 77 #[.agg (insW x), .slice (some ⟨g, 0, none⟩) m cap] w fun e w' => e = .returned (.agg (plW (placeP l x))) ∧ Below w.heap.size w w' := by
  have hm : m = l.slots.length := by obtain ⟨_, _, _, hv, _⟩ := h.parts SyOk; cases hv; rfl
  by_cases hop : x.op = 3 ∨ x.op = 4
  · obtain ⟨hb, ha⟩ : vOk (l.slots.length : Nat) x.b = true ∧ (x.a = -1 ∨ vOk (l.slots.length : Nat) x.a = true) := by
      rcases insOk_slots hx with ⟨e, _⟩ | ⟨e, _⟩ | ⟨e, _⟩ | ⟨_, _, hb, ha, _⟩ | ⟨_, hb, ha, _⟩ | ⟨e, _⟩ | e
      all_goals first | exact ⟨hb, ha⟩ | omega
    obtain ⟨op, d, a, b, c, n, t⟩ := x
    simp only at hop hb ha
    obtain ⟨nb, rfl, hnb⟩ := vOk_natS hb
    obtain ⟨⟨bb, ob⟩, eb⟩ : ∃ s, l.slots[nb] = s := ⟨_, rfl⟩
    have E : placeP l ⟨op, d, a, (nb : Int), c, n, t⟩ = ⟨n, min (l.oget a).base bb, max (l.oget a).base bb, wrap64 ((l.oget a).off + ob)⟩ := by
      unfold placeP; rw [if_pos hop]; simp only [Led.get_atS hnb, eb]
    rw [E]
    simp only [insW, plW]
    by_cases hn : a = -1
    · subst hn
      have e0 : l.oget (-1) = ⟨-1, 0⟩ := if_pos rfl
      rw [e0]
      exact l06Place_none op d c n nb t l.slots hop w B g m cap h hm hnb bb ob eb
    · obtain ⟨na, rfl, hna⟩ := vOk_natS (ha.resolve_left hn)
      obtain ⟨⟨ba, oa⟩, ea⟩ : ∃ s, l.slots[na] = s := ⟨_, rfl⟩
      have e0 : l.oget (na : Int) = ⟨ba, oa⟩ := by unfold Led.oget; rw [if_neg hn, Led.get_atS hna, ea]
      rw [e0]
      exact l06Place_some op d c n nb t l.slots hop w B g m cap h hm hnb bb ob eb na hna ba oa ea
  · have E : placeP l x = ⟨-1, 0, 0, 0⟩ := if_neg hop
    rw [E]
    exact l06Place_no x hop w _
/-- A slot is told anew, then memory grows. -/
theorem sy_end {w W : World} {B g m cap : Nat} {l : List Sym} (h : OwnE SyE w B (.slice (some ⟨g, 0, none⟩) m cap) l) (j : Nat) (hj : j < l.length) (s : Sym)
    (bel : Below ((w.setCell ⟨g, j * 2, none⟩ (.int .i64 s.base)).setCell ⟨g, j * 2 + 1, none⟩ (.int .i64 s.off)).heap.size ((w.setCell ⟨g, j * 2, none⟩ (.int .i64 s.base)).setCell ⟨g, j * 2 + 1, none⟩ (.int .i64 s.off)) W) :
    But g w W ∧ OwnE SyE W B (.slice (some ⟨g, 0, none⟩) m cap) (l.set j s) :=
  ⟨But.on (((But.refl g w).set _ _).set _ _) bel, (sy_set h j hj s).stays bel⟩
theorem but_end {w W : World} {B b g m cap : Nat} {l : List Sym} (h : OwnE SyE w B (.slice (some ⟨g, 0, none⟩) m cap) l) (j : Nat) (hj : j < l.length) (s : Sym)
    (hb : But b w W) (hw : w.heap.size ≤ b) : But g w ((W.setCell ⟨g, j * 2, none⟩ (.int .i64 s.base)).setCell ⟨g, j * 2 + 1, none⟩ (.int .i64 s.off)) ∧ OwnE SyE ((W.setCell ⟨g, j * 2, none⟩ (.int .i64 s.base)).setCell ⟨g, j * 2 + 1, none⟩ (.int .i64 s.off)) B (.slice (some ⟨g, 0, none⟩) m cap) (l.set j s) := by
  have hbel : Below w.heap.size w W := hb.below hw (Nat.le_refl _)
  exact ⟨((But.on (But.refl g w) hbel).set _ _).set _ _, sy_set (h.stays hbel) j hj s⟩
set_option maxRecDepth 100000 in
set_option maxHeartbeats 4000000 in
theorem l06Step_const (l : List Sym) (f : Nat) (nd : Nat) (a b c n : Int) (t : ByteArray) (w : World) (B g m cap : Nat) (h : OwnE SyE w B (.slice (some ⟨g, 0, none⟩) m cap) l) (hm : m = l.length) (hnd : nd < l.length) :
    Calls Tryz.prog 78 #[.agg #[.int .i64 0, .int .i64 (nd : Int), .int .i64 a, .int .i64 b, .int .i64 c, .int .i64 n, .string t], .slice (some ⟨g, 0, none⟩) m cap, .int .i64 (f : Int)] w fun e w' => e = .returned (.int .i64 f) ∧ But g w w' ∧ OwnE SyE w' B (.slice (some ⟨g, 0, none⟩) m cap) (l.set nd ⟨-1, n⟩) := by
  have H := hideP h
  have hx : m ≤ maxLen := by obtain ⟨_, _, _, hv, _, _, h1, h2, _⟩ := h.parts SyOk; cases hv; omega
  have hmx := maxLen_lt
  obtain ⟨c0, c1, f0, f1, hg⟩ := sy_at h nd hnd
  have hmd := hm ▸ hnd
  have hg1 : g < w.heap.size + 1 := by omega
  have hg2 : g < w.heap.size + 1 + 1 := by omega
  clear h
  go_enter Tryz.func78, Tryz.ntmps78
  go_wp2
  go_ret
  exact ⟨rfl, sy_end H.out nd hnd ⟨-1, n⟩ (below2 _ _ _)⟩
set_option maxRecDepth 100000 in
set_option maxHeartbeats 4000000 in
theorem l06Step_move (l : List Sym) (f : Nat) (nd na : Nat) (b c n : Int) (t : ByteArray) (w : World) (B g m cap : Nat) (h : OwnE SyE w B (.slice (some ⟨g, 0, none⟩) m cap) l) (hm : m = l.length) (hnd : nd < l.length) (hna : na < l.length) :
    Calls Tryz.prog 78 #[.agg #[.int .i64 1, .int .i64 (nd : Int), .int .i64 (na : Int), .int .i64 b, .int .i64 c, .int .i64 n, .string t], .slice (some ⟨g, 0, none⟩) m cap, .int .i64 (f : Int)] w fun e w' => e = .returned (.int .i64 f) ∧ But g w w' ∧ OwnE SyE w' B (.slice (some ⟨g, 0, none⟩) m cap) (l.set nd l[na]) := by
  have H := hideP h
  have hx : m ≤ maxLen := by obtain ⟨_, _, _, hv, _, _, h1, h2, _⟩ := h.parts SyOk; cases hv; omega
  have hmx := maxLen_lt
  obtain ⟨c0, c1, f0, f1, hg⟩ := sy_at h nd hnd
  have hmd := hm ▸ hnd
  have hg1 : g < w.heap.size + 1 := by omega
  have hg2 : g < w.heap.size + 1 + 1 := by omega
  obtain ⟨k0, k1, _, _, _⟩ := sy_at h na hna
  have hma := hm ▸ hna
  obtain ⟨s, hs⟩ : ∃ s, l[na] = s := ⟨_, rfl⟩
  rw [hs] at k0 k1 ⊢
  clear h hs
  go_enter Tryz.func78, Tryz.ntmps78
  go_wp2
  go_ret
  exact ⟨rfl, sy_end H.out nd hnd s (below2 _ _ _)⟩
set_option maxRecDepth 100000 in
set_option maxHeartbeats 4000000 in
theorem l06Step_load (l : List Sym) (f : Nat) (nd : Nat) (a b c n : Int) (t : ByteArray) (w : World) (B g m cap : Nat) (h : OwnE SyE w B (.slice (some ⟨g, 0, none⟩) m cap) l) (hm : m = l.length) (hnd : nd < l.length) (hf : f ≤ 1000000) :
    Calls Tryz.prog 78 #[.agg #[.int .i64 3, .int .i64 (nd : Int), .int .i64 a, .int .i64 b, .int .i64 c, .int .i64 n, .string t], .slice (some ⟨g, 0, none⟩) m cap, .int .i64 (f : Int)] w fun e w' => e = .returned (.int .i64 ((f + 1 : Nat) : Int)) ∧ But g w w' ∧ OwnE SyE w' B (.slice (some ⟨g, 0, none⟩) m cap) (l.set nd ⟨(f : Int), 0⟩) := by
  have H := hideP h
  have hx : m ≤ maxLen := by obtain ⟨_, _, _, hv, _, _, h1, h2, _⟩ := h.parts SyOk; cases hv; omega
  have hmx := maxLen_lt
  obtain ⟨c0, c1, f0, f1, hg⟩ := sy_at h nd hnd
  have hmd := hm ▸ hnd
  have hg1 : g < w.heap.size + 1 := by omega
  have hg2 : g < w.heap.size + 1 + 1 := by omega
  clear h
  go_enter Tryz.func78, Tryz.ntmps78
  go_wp2
  go_ret
  exact ⟨ret_int (by omega), sy_end H.out nd hnd ⟨(f : Int), 0⟩ (below2 _ _ _)⟩
set_option maxRecDepth 100000 in
set_option maxHeartbeats 4000000 in
theorem l06Step_get (l : List Sym) (f : Nat) (nd : Nat) (a b c n : Int) (t : ByteArray) (w : World) (B g m cap : Nat) (h : OwnE SyE w B (.slice (some ⟨g, 0, none⟩) m cap) l) (hm : m = l.length) (hnd : nd < l.length) (hf : f ≤ 1000000) :
    Calls Tryz.prog 78 #[.agg #[.int .i64 5, .int .i64 (nd : Int), .int .i64 a, .int .i64 b, .int .i64 c, .int .i64 n, .string t], .slice (some ⟨g, 0, none⟩) m cap, .int .i64 (f : Int)] w fun e w' => e = .returned (.int .i64 ((f + 1 : Nat) : Int)) ∧ But g w w' ∧ OwnE SyE w' B (.slice (some ⟨g, 0, none⟩) m cap) (l.set nd ⟨(f : Int), 0⟩) := by
  have H := hideP h
  have hx : m ≤ maxLen := by obtain ⟨_, _, _, hv, _, _, h1, h2, _⟩ := h.parts SyOk; cases hv; omega
  have hmx := maxLen_lt
  obtain ⟨c0, c1, f0, f1, hg⟩ := sy_at h nd hnd
  have hmd := hm ▸ hnd
  have hg1 : g < w.heap.size + 1 := by omega
  have hg2 : g < w.heap.size + 1 + 1 := by omega
  clear h
  go_enter Tryz.func78, Tryz.ntmps78
  go_wp2
  go_ret
  exact ⟨ret_int (by omega), sy_end H.out nd hnd ⟨(f : Int), 0⟩ (below2 _ _ _)⟩
set_option maxRecDepth 100000 in
set_option maxHeartbeats 4000000 in
theorem l06Step_none (l : List Sym) (f : Nat) (op d a b c n : Int) (t : ByteArray) (w : World) (B g m cap : Nat) (h : OwnE SyE w B (.slice (some ⟨g, 0, none⟩) m cap) l) (hm : m = l.length) (hop : op = 4 ∨ op = 6) :
    Calls Tryz.prog 78 #[.agg #[.int .i64 op, .int .i64 d, .int .i64 a, .int .i64 b, .int .i64 c, .int .i64 n, .string t], .slice (some ⟨g, 0, none⟩) m cap, .int .i64 (f : Int)] w fun e w' => e = .returned (.int .i64 f) ∧ But g w w' ∧ OwnE SyE w' B (.slice (some ⟨g, 0, none⟩) m cap) l := by
  have H := hideP h
  have hx : m ≤ maxLen := by obtain ⟨_, _, _, hv, _, _, h1, h2, _⟩ := h.parts SyOk; cases hv; omega
  have hmx := maxLen_lt
  clear h
  rcases hop with rfl | rfl
  · go_enter Tryz.func78, Tryz.ntmps78
    go_wp2
    go_ret
    exact ⟨rfl, But.on (But.refl g w) (below2 w _ _), H.out.stays (below2 w _ _)⟩
  · go_enter Tryz.func78, Tryz.ntmps78
    go_wp2
    go_ret
    exact ⟨rfl, But.on (But.refl g w) (below2 w _ _), H.out.stays (below2 w _ _)⟩
theorem set2_heap {w : World} {g : Nat} {T : TypeId} {c0 c1 v0 v1 : Value} (h : w.heap[g]? = some (.cells #[c0, c1] T (0, 0))) : ((w.setCell ⟨g, 0, none⟩ v0).setCell ⟨g, 1, none⟩ v1).heap[g]? = some (.cells #[v0, v1] T (0, 0)) := by
  have h0 := heap_setCell_same w g 0 _ T v0 h
  have h1 := heap_setCell_same _ g 1 _ T v1 h0
  rw [h1]; rfl
theorem But.afterS {b : Nat} {w w1 w2 : World} (h : But b w w1) (k : But b w1 w2) : But b w w2 :=
  ⟨k.os.trans h.os, k.tape.trans h.tape, k.output.trans h.output, Nat.le_trans h.size k.size, fun i hi hne => (k.block i (Nat.lt_of_lt_of_le hi h.size) hne).trans (h.block i hi hne)⟩
set_option maxRecDepth 100000 in
set_option maxHeartbeats 4000000 in
theorem l06Step_bin (l : List Sym) (f : Nat) (nd na nb : Nat) (c n : Int) (t : ByteArray) (w : World) (B g m cap : Nat) (h : OwnE SyE w B (.slice (some ⟨g, 0, none⟩) m cap) l) (hm : m = l.length) (hnd : nd < l.length) (hna : na < l.length) (hnb : nb < l.length) (hf : f ≤ 1000000) :
    Calls Tryz.prog 78 #[.agg #[.int .i64 2, .int .i64 (nd : Int), .int .i64 (na : Int), .int .i64 (nb : Int), .int .i64 c, .int .i64 n, .string t], .slice (some ⟨g, 0, none⟩) m cap, .int .i64 (f : Int)] w fun e w' => e = .returned (.int .i64 (match (symBin t.toList l[na] l[nb]) with | some _ => (f : Int) | none => ((f + 1 : Nat) : Int))) ∧ But g w w' ∧ OwnE SyE w' B (.slice (some ⟨g, 0, none⟩) m cap) (l.set nd ((symBin t.toList l[na] l[nb]).getD ⟨(f : Int), 0⟩)) := by
  have H := hideP h
  have hx : m ≤ maxLen := by obtain ⟨_, _, _, hv, _, _, h1, h2, _⟩ := h.parts SyOk; cases hv; omega
  have hmx := maxLen_lt
  obtain ⟨c0, c1, f0, f1, hg⟩ := sy_at h nd hnd
  have hmd := hm ▸ hnd
  have hg1 : g < w.heap.size + 1 := by omega
  have hg2 : g < w.heap.size + 1 + 1 := by omega
  obtain ⟨k0, k1, _, _, _⟩ := sy_at h na hna
  obtain ⟨j0, j1, _, _, _⟩ := sy_at h nb hnb
  have hma := hm ▸ hna
  have hmb := hm ▸ hnb
  obtain ⟨⟨ba, oa⟩, ea⟩ : ∃ s, l[na] = s := ⟨_, rfl⟩
  obtain ⟨⟨bb, ob⟩, eb⟩ : ∃ s, l[nb] = s := ⟨_, rfl⟩
  rw [ea] at k0 k1
  rw [eb] at j0 j1
  rw [ea, eb]
  obtain ⟨r, hr⟩ : ∃ r, symBin t.toList ⟨ba, oa⟩ ⟨bb, ob⟩ = r := ⟨_, rfl⟩
  have BN : Hid (∀ W, Calls Tryz.prog 123 #[.string t, .agg #[.int .i64 ba, .int .i64 oa], .agg #[.int .i64 bb, .int .i64 ob]] W fun e w' => e = .returned (.tuple #[.agg #[.int .i64 (r.getD ⟨0, 0⟩).base, .int .i64 (r.getD ⟨0, 0⟩).off], .bool r.isSome]) ∧ Below W.heap.size W w') := fun W => by
    have := l06Bin_any t ba oa bb ob W
    rw [hr] at this; exact this
  rw [hr]
  clear hr ea eb
  obtain ⟨⟨rb, ro⟩, hrr⟩ : ∃ s, r.getD ⟨0, 0⟩ = s := ⟨_, rfl⟩
  rw [hrr] at BN
  have HRR := hideP hrr
  clear hrr
  have SK : Hid (∀ W', But (w.heap.size + 1) ((w.alloc (.cells #[.int .i64 2, .int .i64 (nd : Int), .int .i64 (na : Int), .int .i64 (nb : Int), .int .i64 c, .int .i64 n, .string t] 56)).alloc (.cells #[.int .i64 0, .int .i64 0] 150)) W' → W'.cell? ⟨w.heap.size, 1, none⟩ = some (.int .i64 (nd : Int)) ∧ W'.cell? ⟨w.heap.size, 2, none⟩ = some (.int .i64 (na : Int)) ∧ W'.cell? ⟨w.heap.size, 3, none⟩ = some (.int .i64 (nb : Int)) ∧ W'.cell? ⟨w.heap.size, 6, none⟩ = some (.string t) ∧ W'.cell? ⟨g, na * 2, none⟩ = some (.int .i64 ba) ∧ W'.cell? ⟨g, na * 2 + 1, none⟩ = some (.int .i64 oa) ∧ W'.cell? ⟨g, nb * 2, none⟩ = some (.int .i64 bb) ∧ W'.cell? ⟨g, nb * 2 + 1, none⟩ = some (.int .i64 ob)) := fun W' hb => by
    have q := (cells_of (heap_alloc2_old w (.cells #[.int .i64 2, .int .i64 (nd : Int), .int .i64 (na : Int), .int .i64 (nb : Int), .int .i64 c, .int .i64 n, .string t] 56) (.cells #[.int .i64 0, .int .i64 0] 150))).1
    have hs : w.heap.size < ((w.alloc (.cells #[.int .i64 2, .int .i64 (nd : Int), .int .i64 (na : Int), .int .i64 (nb : Int), .int .i64 c, .int .i64 n, .string t] 56)).alloc (.cells #[.int .i64 0, .int .i64 0] 150)).heap.size := by simp; omega
    have hgs : g < ((w.alloc (.cells #[.int .i64 2, .int .i64 (nd : Int), .int .i64 (na : Int), .int .i64 (nb : Int), .int .i64 c, .int .i64 n, .string t] 56)).alloc (.cells #[.int .i64 0, .int .i64 0] 150)).heap.size := by simp; omega
    have b2 := below2 w (.cells #[.int .i64 2, .int .i64 (nd : Int), .int .i64 (na : Int), .int .i64 (nb : Int), .int .i64 c, .int .i64 n, .string t] 56) (.cells #[.int .i64 0, .int .i64 0] 150)
    exact ⟨(hb.cell hs (by omega)).trans (q 1), (hb.cell hs (by omega)).trans (q 2), (hb.cell hs (by omega)).trans (q 3), (hb.cell hs (by omega)).trans (q 6), (hb.cell hgs (by omega)).trans ((b2.cell (p := ⟨g, na * 2, none⟩) hg).trans k0), (hb.cell hgs (by omega)).trans ((b2.cell (p := ⟨g, na * 2 + 1, none⟩) hg).trans k1), (hb.cell hgs (by omega)).trans ((b2.cell (p := ⟨g, nb * 2, none⟩) hg).trans j0), (hb.cell hgs (by omega)).trans ((b2.cell (p := ⟨g, nb * 2 + 1, none⟩) hg).trans j1)⟩
  have HD := hideP (heap_alloc2_new w (.cells #[.int .i64 2, .int .i64 (nd : Int), .int .i64 (na : Int), .int .i64 (nb : Int), .int .i64 c, .int .i64 n, .string t] 56) (.cells #[.int .i64 0, .int .i64 0] 150))
  have B2 := hideP (below2 w (.cells #[.int .i64 2, .int .i64 (nd : Int), .int .i64 (na : Int), .int .i64 (nb : Int), .int .i64 c, .int .i64 n, .string t] 56) (.cells #[.int .i64 0, .int .i64 0] 150))
  clear h k0 k1 j0 j1 c0 c1 f0 f1
  subst hm
  go_enter Tryz.func78, Tryz.ntmps78
  go_upto_region 9 with fail
  obtain ⟨W0, hW0⟩ : ∃ W0, ((w.alloc (.cells #[.int .i64 2, .int .i64 (nd : Int), .int .i64 (na : Int), .int .i64 (nb : Int), .int .i64 c, .int .i64 n, .string t] 56)).alloc (.cells #[.int .i64 0, .int .i64 0] 150)) = W0 := ⟨_, rfl⟩
  rw [hW0] at SK HD B2 ⊢
  clear hW0
  go_region_held3 (fun W' => W'.cell? ⟨w.heap.size, 1, none⟩ = some (.int .i64 (nd : Int)) ∧ W'.cell? ⟨w.heap.size, 2, none⟩ = some (.int .i64 (na : Int)) ∧ W'.cell? ⟨w.heap.size, 3, none⟩ = some (.int .i64 (nb : Int)) ∧ W'.cell? ⟨w.heap.size, 6, none⟩ = some (.string t) ∧ W'.cell? ⟨g, na * 2, none⟩ = some (.int .i64 ba) ∧ W'.cell? ⟨g, na * 2 + 1, none⟩ = some (.int .i64 oa) ∧ W'.cell? ⟨g, nb * 2, none⟩ = some (.int .i64 bb) ∧ W'.cell? ⟨g, nb * 2 + 1, none⟩ = some (.int .i64 ob)) (first | exact SK.out _ (But.on (But.refl _ _) (Below.refl _ _).drew) | exact SK.out _ BU.out | exact SK.out _ (BU.out.set _ _) | exact SK.out _ ((BU.out.set _ _).set _ _)) (first
      | (go_at_call 123; refine (BN.out _).mono ?_; rintro e1 w1 ⟨rfl, bel1⟩; have BU := hideP ((But.on (But.refl (w.heap.size + 1) W0) (Below.refl _ _).drew).on bel1); have D1 := hideP ((bel1.block (w.heap.size + 1) (Array.getElem?_eq_some_iff.1 HD.out).1).trans HD.out); have d0 := (cells_of D1.out).1 0; have d1 := (cells_of D1.out).1 1; have d2 := (cells_of D1.out).2 0; have d3 := (cells_of D1.out).2 1; simp at d0 d1; clear bel1))
  all_goals
    have HB := hideP ((BU.out.set 0 (.int .i64 rb)).set 1 (.int .i64 ro))
    have HX := hideP (set2_heap (v0 := .int .i64 rb) (v1 := .int .i64 ro) D1.out)
    clear d0 d1 d2 d3 D1 BU
    obtain ⟨wc, hwc⟩ : ∃ wc, (w1.setCell ⟨w.heap.size + 1, 0, none⟩ (.int .i64 rb)).setCell ⟨w.heap.size + 1, 1, none⟩ (.int .i64 ro) = wc := ⟨_, rfl⟩
    rw [hwc] at HB HX ⊢
    clear hwc
    obtain ⟨q1, _, _, _, _⟩ := SK.out _ HB.out
    have x0 := (cells_of HX.out).1 0
    have x1 := (cells_of HX.out).1 1
    have x2 := (cells_of HX.out).2 0
    have x3 := (cells_of HX.out).2 1
    simp at x0 x1
    have BW : Hid (But (w.heap.size + 1) w wc) := by
      refine ⟨HB.out.os.trans B2.out.os, HB.out.tape.trans B2.out.tape, HB.out.output.trans B2.out.output, Nat.le_trans B2.out.size HB.out.size, fun k hk hne => (HB.out.block k (Nat.lt_of_lt_of_le hk B2.out.size) hne).trans (B2.out.block k hk)⟩
    have OC := hideP (H.out.stays (BW.out.below (Nat.le_succ _) (Nat.le_refl _)))
    obtain ⟨c0, c1, f0, f1, hgc⟩ := sy_at OC.out nd hnd
    clear SK HD B2 HB BN OC
    cases r with
    | some s =>
      obtain rfl : s = ⟨rb, ro⟩ := HRR.out
      go_wp2
      go_ret
      exact ⟨rfl, but_end H.out nd hnd ⟨rb, ro⟩ BW.out (Nat.le_succ _)⟩
    | none =>
      go_wp2
      go_ret
      refine ⟨ret_int (by omega), ?_⟩
      exact but_end H.out nd hnd ⟨(f : Int), 0⟩ ((BW.out.set _ _).set _ _) (Nat.le_succ _)
end Go.Proofs.YtelkpikbjfkpcaaGreat

/- The contract of the specification's l06Step, for any step that is right. -/
namespace Go.Proofs.YtelkpikbjfkpcaaGreat
open Go.ChangeShapes Go.WideShapes Go.ChangeAt Go.RowKit
theorem l06Step_any (x : Ins) (l : Led) (R : Int) (w : World) (B g m cap : Nat) (h : OwnE SyE w B (.slice (some ⟨g, 0, none⟩) m cap) l.slots) (hn : l.slots.length + l.fresh ≤ 1000000) (hx : insOk R (l.slots.length : Nat) x = true) :
    Calls Tryz.prog 78 #[.agg (insW x), .slice (some ⟨g, 0, none⟩) m cap, .int .i64 ((l.slots.length + l.fresh : Nat) : Int)] w fun e w' => e = .returned (.int .i64 ((l.slots.length + (stepP l x).fresh : Nat) : Int)) ∧ But g w w' ∧ OwnE SyE w' B (.slice (some ⟨g, 0, none⟩) m cap) (stepP l x).slots := by
  have hm : m = l.slots.length := by obtain ⟨_, _, _, hv, _⟩ := h.parts SyOk; cases hv; rfl
  have hs := insOk_slots hx
  obtain ⟨op, d, a, b, c, n, t⟩ := x
  simp only at hs
  rcases hs with ⟨rfl, hd⟩ | ⟨rfl, hd, ha⟩ | ⟨rfl, hd, ha, hb⟩ | ⟨rfl, hd, _⟩ | ⟨rfl, _⟩ | ⟨rfl, hd⟩ | rfl
  · obtain ⟨nd, rfl, hnd⟩ := vOk_natS hd
    have := l06Step_const l.slots (l.slots.length + l.fresh) nd a b c n t w B g m cap h hm hnd
    simpa [stepP, insW, Led.put] using this
  · obtain ⟨nd, rfl, hnd⟩ := vOk_natS hd
    obtain ⟨na, rfl, hna⟩ := vOk_natS ha
    have := l06Step_move l.slots (l.slots.length + l.fresh) nd na b c n t w B g m cap h hm hnd hna
    simpa [stepP, insW, Led.put, Led.get_atS hna] using this
  · obtain ⟨nd, rfl, hnd⟩ := vOk_natS hd
    obtain ⟨na, rfl, hna⟩ := vOk_natS ha
    obtain ⟨nb, rfl, hnb⟩ := vOk_natS hb
    have := l06Step_bin l.slots (l.slots.length + l.fresh) nd na nb c n t w B g m cap h hm hnd hna hnb (by omega)
    simp only [stepP, insW, Led.get_atS hna, Led.get_atS hnb]
    rw [if_neg (by omega), if_neg (by omega)]
    simp only [if_true]
    cases hsy : symBin t.toList l.slots[na] l.slots[nb] with
    | some s => rw [hsy] at this; simpa [Led.putO, Led.put] using this
    | none => rw [hsy] at this; simpa [Led.putO, Led.new, Int.add_assoc, Nat.add_assoc] using this
  · obtain ⟨nd, rfl, hnd⟩ := vOk_natS hd
    have := l06Step_load l.slots (l.slots.length + l.fresh) nd a b c n t w B g m cap h hm hnd (by omega)
    simpa [stepP, insW, Led.new, Int.add_assoc, Nat.add_assoc] using this
  · have := l06Step_none l.slots (l.slots.length + l.fresh) 4 d a b c n t w B g m cap h hm (Or.inl rfl)
    simpa [stepP, insW] using this
  · obtain ⟨nd, rfl, hnd⟩ := vOk_natS hd
    have := l06Step_get l.slots (l.slots.length + l.fresh) nd a b c n t w B g m cap h hm hnd (by omega)
    simpa [stepP, insW, Led.new, Int.add_assoc, Nat.add_assoc] using this
  · have := l06Step_none l.slots (l.slots.length + l.fresh) 6 d a b c n t w B g m cap h hm (Or.inr rfl)
    simpa [stepP, insW] using this
end Go.Proofs.YtelkpikbjfkpcaaGreat

/- The contract of spec.Places. -/
namespace Go.Proofs.YtelkpikbjfkpcaaGreat
open Go.ChangeShapes Go.WideShapes Go.ChangeAt Go.RowKit
/-- Between two rounds of the specification's Places. -/
structure SInv (w : World) (V : Nat) (code : List Ins) (g m cap : Nat) (wr : World) (o : Value) (j : Nat) : Prop where
  own : OwnE PlE wr w.heap.size o (placesUp V code j)
  sym : OwnE SyE wr w.heap.size (.slice (some ⟨g, 0, none⟩) m cap) (ledP V (code.take j)).slots
  bel : Below w.heap.size w wr
  ne : o.ownBlock ≠ some g
theorem heldB {W W' : World} {b : Nat} {o : Obj} (h : W.heap[b]? = some o) (bel : Below W.heap.size W W') : W'.heap[b]? = some o := (bel.block b (Array.getElem?_eq_some_iff.1 h).1).trans h
set_option maxRecDepth 100000 in
set_option maxHeartbeats 8000000 in
theorem spec_places (g : Gr) (n : Int) (w : World) (B : Nat) (v : Array Value) (h : GrIs w B v g) (GO : OkIs 14 g) :
    Calls Tryz.prog 42 #[.agg v, .int .i64 n] w fun en w' => ∃ v', en = .returned v' ∧ OwnE PlE w' w.heap.size v' (placesP g n) ∧ Below w.heap.size w w' := by
  have hG := hideP h
  have HGO := hideP GO
  clear GO
  obtain ⟨gok, hgok⟩ : ∃ r, grOk g = r := ⟨_, rfl⟩
  have GO1 : Hid (∀ W A v, GrIs W A v g → Calls Tryz.prog 14 #[.agg v] W fun en w' => en = .returned (.bool gok) ∧ Below W.heap.size W w') := fun W A v hv => hgok ▸ HGO.out W A v hv
  clear HGO
  have hl0 : g.blocks.length ≤ maxLen := by obtain ⟨_, _, _, _, _, _, _, hb⟩ := h; exact hb.1
  have hm := maxLen_lt
  by_cases hb6 : hasB6 g n
  · rw [show placesP g n = placesUp g.slots.toNat (codeAt g n) (codeAt g n).length from if_pos hb6]
    obtain rfl : gok = true := hgok.symm.trans hb6.1
    obtain ⟨i, V, rfl, hV, hV1, hi, hce, hcl, hall⟩ := hasB6_ok hb6
    rw [hce, hV]
    obtain ⟨sizes, params, vars, slots, blocks⟩ := g
    obtain ⟨us, cs, ub, cb, rfl, _, _, hbs⟩ := h
    simp only at *
    subst hV
    obtain ⟨bb, oo, u, k, rfl, hbb, hcell, hcode⟩ := code_of hbs i hi
    have hl := hcode.1
    have HALL : Hid (∀ x ∈ (blocks[i]).code, insOk (sizes.length : Nat) (V : Nat) x = true ∧ I64 x.n) := fun x hx => ⟨hall x hx, ins_i64 hcode x hx⟩
    have HC := hideP hcode
    have BW := hideP (below2 w (.cells #[.slice us sizes.length cs, .int .i64 params, .int .i64 vars, .int .i64 (V : Int), .slice (some ⟨bb, oo, none⟩) blocks.length cb] 29) (.cells #[] 92))
    have Q := hideP (two (Below.refl ((w.alloc (.cells #[.slice us sizes.length cs, .int .i64 params, .int .i64 vars, .int .i64 (V : Int), .slice (some ⟨bb, oo, none⟩) blocks.length cb] 29)).alloc (.cells #[] 92)).heap.size _)).1
    have O0 : Hid (OwnE PlE ((w.alloc (.cells #[.slice us sizes.length cs, .int .i64 params, .int .i64 vars, .int .i64 (V : Int), .slice (some ⟨bb, oo, none⟩) blocks.length cb] 29)).alloc (.cells #[] 92)) w.heap.size (.slice (some ⟨w.heap.size + 1, 0, none⟩) 0 0) []) := (own_nil PlOk (w.alloc (.cells #[.slice us sizes.length cs, .int .i64 params, .int .i64 vars, .int .i64 (V : Int), .slice (some ⟨bb, oo, none⟩) blocks.length cb] 29)) (w.heap.size + 1) (by simp)).mono (by simp)
    clear hce hb6 hall hbs hcode hgok
    obtain ⟨code, hcd⟩ : ∃ code, (blocks[i]).code = code := ⟨_, rfl⟩
    rw [hcd] at HALL HC hcell hcl hl ⊢
    clear hcd
    go_enter Tryz.func42, Tryz.ntmps42
    go_wp2_with fail
    refine (GO1.out _ B _ (GrKeeps.stays hG.out BW.out)).mono ?_
    rintro e1 w1 ⟨rfl, bel1⟩
    replace BW := hideP (below_trans BW.out bel1)
    replace Q := hideP (heldB Q.out bel1)
    replace O0 := hideP (O0.out.stays bel1)
    have p3 := (cells_of Q.out).1 3
    have p4 := (cells_of Q.out).1 4
    simp at p3 p4
    clear bel1 GO1
    go_wp2_with (first | (go_at_call 15; refine (l01In_any _ _ _ _).mono ?_; rintro y1 w2 ⟨rfl, hw1⟩; have hw2 := hw1.symm; clear hw1; subst hw2; rw [show inB (i : Int) 0 ((blocks.length : Int) - 1) = true by simp [inB]; omega]) | fail)
    refine (l06Start_any V _ hV1).mono ?_
    rintro e2 w2 ⟨v2, rfl, o2, bel2⟩
    obtain ⟨gS, capS, rfl, _⟩ := id o2
    have hls : (ledStart V).slots.length = V := by simp [ledStart]
    rw [hls] at o2 ⊢
    have IV : Hid (SInv w V code gS V capS w2 (.slice (some ⟨w.heap.size + 1, 0, none⟩) 0 0) 0) := by
      have l1 := (O0.out.low (w.heap.size + 1) rfl).2
      have l2 := (o2.low gS rfl).1
      exact ⟨O0.out.stays bel2, by simpa [ledP] using o2.mono BW.out.size, below_trans BW.out bel2, by simp [Value.ownBlock]; omega⟩
    replace BW := hideP (below_trans BW.out bel2)
    replace Q := hideP (heldB Q.out bel2)
    have hc2 := (BW.out.cell (p := ⟨bb, oo + i * 5, none⟩) hbb).trans hcell
    have q3 := (cells_of Q.out).1 3
    have q4 := (cells_of Q.out).1 4
    simp at q3 q4
    have F0 : Hid ((ledP V (code.take 0)).fresh = 0) := by show _ = _; simp [ledP, ledStart]
    clear bel2 o2 O0 p3 p4
    go_wp2
    clear q3 q4 hc2
    go_loopg [5, 7, 9] code.length (fun gk o fr ix wr => ∃ j : Nat, gk + j = code.length ∧ ix = .int .i64 j ∧ fr = .int .i64 ((V + (ledP V (code.take j)).fresh : Nat) : Int) ∧ Hid (SInv w V code gS V capS wr o j))
    case atStart => exact ⟨0, rfl, rfl, by rw [F0.out]; rfl, IV.out⟩
    case round =>
      obtain ⟨j, hj, rfl, rfl, hv⟩ := hrel
      clear IV F0
      by_cases hlt : j < code.length
      · obtain ⟨b, o, op, d, a, b', c, n, t, rfl, _, hb, hx, q0, q1, q2, q3, q4, q5, q6, _⟩ := Ins_get (HC.out.stays InsKeeps hv.out.bel) j hlt
        obtain ⟨gO, cO, rfl, _⟩ := id hv.out.own
        have HX : Hid (code[j] = ⟨op, d, a, b', c, n, t⟩) := hx
        have hok := HALL.out _ (List.getElem_mem hlt)
        rw [hx] at hok
        have LK := ledP_ok (fun x hx => HALL.out x hx) j (by omega)
        have UP0 := hideP (placesUp_at V hlt)
        have hpl := placesUp_len V code j (by omega)
        have LN := hideP (ledP_take V code j hlt)
        obtain ⟨ld, hld⟩ : ∃ ld, ledP V (code.take j) = ld := ⟨_, rfl⟩
        have SY := hideP hv.out.sym
        rw [hld] at SY LK UP0 LN ⊢
        rw [hx] at UP0 LN
        have hok1 : Hid (insOk (sizes.length : Nat) (ld.slots.length : Nat) ⟨op, d, a, b', c, n, t⟩ = true) := by show _ = _; rw [LK.1.1]; exact hok.1
        have hfr : Hid (ld.slots.length + ld.fresh ≤ 1000000) := by show _ ≤ _; rw [LK.1.1]; have := LK.2; omega
        have hlV : Hid (ld.slots.length = V) := LK.1.1
        clear hld LK hok hx
        go_wp2_with fail
        refine (l06Place_any ⟨op, d, a, b', c, n, t⟩ ld (sizes.length : Nat) _ w.heap.size gS V capS SY.out hok1.out).mono ?_
        rintro e3 w3 ⟨rfl, bel3⟩
        obtain ⟨p, hp⟩ : ∃ p, placeP ld ⟨op, d, a, b', c, n, t⟩ = p := ⟨_, rfl⟩
        rw [hp] at UP0 ⊢
        clear hp
        obtain ⟨pr, pi, pj, po⟩ := p
        simp only [plW]
        replace SY := hideP (SY.out.stays bel3)
        have OA := hideP (hv.out.own.stays bel3)
        have BA := hideP (below_trans hv.out.bel bel3)
        clear bel3 q0 q1 q2 q3 q4 q5 q6
        have al := (Below.refl w3.heap.size w3).alloc (Nat.le_refl _) (.cells #[.int .i64 pr, .int .i64 pi, .int .i64 pj, .int .i64 po] 92)
        have CQ : Hid (∀ r, r < PlE.sz → (w3.alloc (.cells #[.int .i64 pr, .int .i64 pi, .int .i64 pj, .int .i64 po] 92)).cell? ⟨w3.heap.size, 0 + r, none⟩ = (PlE.cs ⟨pr, pi, pj, po⟩)[r]?) := fun r _ => by
          have := (cells_of (heap_alloc_new w3 (.cells #[.int .i64 pr, .int .i64 pi, .int .i64 pj, .int .i64 po] 92))).1 r
          rw [Nat.zero_add, this]; simp [PlE]
        replace SY := hideP (SY.out.stays al)
        replace OA := hideP (OA.out.stays al)
        replace BA := hideP (below_trans BA.out al)
        clear al
        have hne := hideP hv.out.ne
        go_upto_region 11 with (at_builtin; refine list_appE PlOk _ rfl _ _ rfl w.heap.size _ (placesUp V code j) ⟨pr, pi, pj, po⟩ w3.heap.size 0 1 rfl rfl OA.out CQ.out (by omega) BA.out.size ?_; intro v6 w6 o6 grow6 loc6)
        replace grow6 : World.grownBy _ w6 ((Value.slice (some ⟨gO, 0, none⟩) (placesUp V code j).length cO).ownBlock) := grow6
        replace loc6 : v6.ownBlock = ((Value.slice (some ⟨gO, 0, none⟩) (placesUp V code j).length cO).ownBlock) ∨ v6.ownBlock = some (w3.alloc (.cells #[.int .i64 pr, .int .i64 pi, .int .i64 pj, .int .i64 po] 92)).heap.size := loc6
        rw [← UP0.out] at o6
        have O6 := hideP o6
        have B6 := hideP (BA.out.grown grow6 BA.out.size (fun b' hb' => (OA.out.low b' hb').1))
        have S6 := hideP (SY.out.kept grow6 (fun e => hne.out (by rw [← e]; rfl)))
        have ne6 : Hid (v6.ownBlock ≠ some gS) := by
          have l1 := (SY.out.low gS rfl).2
          rcases loc6 with e | e
          · rw [e]; exact hne.out
          · rw [e]; exact fun h => by injection h with h; omega
        clear o6 grow6 loc6 SY OA BA CQ hne
        obtain ⟨g6, c6, rfl, _⟩ := id O6.out
        obtain ⟨b2, o2, op2, d2, a2, b2', c2, n2, t2, hbe, _, hb2, hx2, q0, q1, q2, q3, q4, q5, q6, _⟩ := Ins_get (HC.out.stays InsKeeps B6.out) j hlt
        cases hbe
        obtain ⟨rfl, rfl, rfl, rfl, rfl, rfl, rfl⟩ : op2 = op ∧ d2 = d ∧ a2 = a ∧ b2' = b' ∧ c2 = c ∧ n2 = n ∧ t2 = t := by
          have := hx2.symm.trans HX.out
          injection this with h1 h2 h3 h4 h5 h6 h7
          exact ⟨h1, h2, h3, h4, h5, h6, h7⟩
        clear hx2
        go_wp2_with fail
        rw [← hlV.out] at S6 ⊢
        refine (l06Step_any ⟨op2, d2, a2, b2', c2, n2, t2⟩ ld (sizes.length : Nat) _ w.heap.size gS ld.slots.length capS S6.out hfr.out hok1.out).mono ?_
        rintro e7 w7 ⟨rfl, but7, sym7⟩
        rw [hlV.out] at sym7 ⊢
        have IV : Hid (SInv w V code gS V capS w7 (.slice (some ⟨g6, 0, none⟩) (placesUp V code (j + 1)).length c6) (j + 1)) := by
          have l1 := (S6.out.low gS rfl).1
          exact ⟨O6.out.butG but7 ne6.out, by rw [LN.out]; exact sym7, B6.out.trans (but7.below l1 B6.out.size), ne6.out⟩
        have LF : Hid ((stepP ld ⟨op2, d2, a2, b2', c2, n2, t2⟩).fresh = (ledP V (code.take (j + 1))).fresh) := by show _ = _; rw [LN.out]
        clear but7 sym7 q0 q1 q2 q3 q4 q5 q6 O6 B6 S6 ne6
        go_wp2
        go_roundg (code.length - (j + 1))
        case rel => exact ⟨j + 1, by omega, by go_num, by rw [← LF.out]; first | rfl | simp, IV.out⟩
        case measure => omega
      · have hjn : j = code.length := by omega
        subst hjn
        go_wp2
        go_ret
        exact ⟨_, rfl, hv.out.own, hv.out.bel⟩
  · rw [show placesP g n = [] from if_neg hb6]
    obtain ⟨sizes, params, vars, slots, blocks⟩ := g
    obtain ⟨us, cs, ub, cb, rfl, _, _, hbs⟩ := h
    simp only at *
    have BW := hideP (below2 w (.cells #[.slice us sizes.length cs, .int .i64 params, .int .i64 vars, .int .i64 slots, .slice ub blocks.length cb] 29) (.cells #[] 92))
    have Q := hideP (two (Below.refl ((w.alloc (.cells #[.slice us sizes.length cs, .int .i64 params, .int .i64 vars, .int .i64 slots, .slice ub blocks.length cb] 29)).alloc (.cells #[] 92)).heap.size _)).1
    have O0 : Hid (OwnE PlE ((w.alloc (.cells #[.slice us sizes.length cs, .int .i64 params, .int .i64 vars, .int .i64 slots, .slice ub blocks.length cb] 29)).alloc (.cells #[] 92)) w.heap.size (.slice (some ⟨w.heap.size + 1, 0, none⟩) 0 0) []) := (own_nil PlOk (w.alloc (.cells #[.slice us sizes.length cs, .int .i64 params, .int .i64 vars, .int .i64 slots, .slice ub blocks.length cb] 29)) (w.heap.size + 1) (by simp)).mono (by simp)
    cases gok with
    | false =>
      clear hb6 hbs hgok
      go_enter Tryz.func42, Tryz.ntmps42
      go_wp2_with fail
      refine (GO1.out _ B _ (GrKeeps.stays hG.out BW.out)).mono ?_
      rintro e1 w1 ⟨rfl, bel1⟩
      replace BW := hideP (below_trans BW.out bel1)
      replace O0 := hideP (O0.out.stays bel1)
      clear bel1
      go_wp2
      go_ret
      exact ⟨_, rfl, O0.out, BW.out⟩
    | true =>
      have hno : ¬ (0 ≤ n ∧ n ≤ (blocks.length : Int) - 1) := fun hh => hb6 ⟨hgok, hh.1, by simp only; omega⟩
      clear hb6 hbs hgok
      go_enter Tryz.func42, Tryz.ntmps42
      go_wp2_with fail
      refine (GO1.out _ B _ (GrKeeps.stays hG.out BW.out)).mono ?_
      rintro e1 w1 ⟨rfl, bel1⟩
      replace BW := hideP (below_trans BW.out bel1)
      replace Q := hideP (heldB Q.out bel1)
      replace O0 := hideP (O0.out.stays bel1)
      have p4 := (cells_of Q.out).1 4
      simp at p4
      clear bel1 GO1
      go_wp2_with (go_at_call 15; refine (l01In_any _ _ _ _).mono ?_; rintro y1 w2 ⟨rfl, hw1⟩; have hw2 := hw1.symm; clear hw1; subst hw2; rw [show inB n 0 ((blocks.length : Int) - 1) = false by simp [inB]; omega])
      go_ret
      exact ⟨_, rfl, O0.out, BW.out⟩
end Go.Proofs.YtelkpikbjfkpcaaGreat
