/- The contract of the specification's l06Place (written by wip/mksymp.py). -/
import Derived.Test.YtgiboadcfnfooabSymS
import Derived.Laws.Rows
namespace Go.Proofs.Ytgiboadcfnfooab
open Go.ChangeShapes Go.WideShapes Go.ChangeAt Go.RowKit
theorem spl_eq {n i j o i' j' o' : Int} (h1 : i = i') (h2 : j = j') (h3 : o = o') : Ending.returned (.agg #[.int .i64 n, .int .i64 i, .int .i64 j, .int .i64 o]) = .returned (.agg #[.int .i64 n, .int .i64 i', .int .i64 j', .int .i64 o']) := by rw [h1, h2, h3]
theorem below4 (w : World) (o1 o2 o3 o4 : Obj) : Below w.heap.size w ((((w.alloc o1).alloc o2).alloc o3).alloc o4) := (below3 w o1 o2 o3).alloc (by simp; omega) _
set_option maxRecDepth 100000 in
set_option maxHeartbeats 4000000 in
theorem l06Place_none (op d c n : Int) (nb : Nat) (t : ByteArray) (l : List Sym) (hop : op = 3 ∨ op = 4) (w : World) (B g m cap : Nat) (h : OwnE SyE w B (.slice (some ⟨g, 0, none⟩) m cap) l) (hm : m = l.length) (hnb : nb < l.length) (bb ob : Int) (eb : l[nb] = ⟨bb, ob⟩) :
    Calls Try.prog 54 #[.agg #[.int .i64 op, .int .i64 d, .int .i64 (-1), .int .i64 (nb : Int), .int .i64 c, .int .i64 n, .string t], .slice (some ⟨g, 0, none⟩) m cap] w fun e w' => e = .returned (.agg #[.int .i64 n, .int .i64 (min (-1) bb), .int .i64 (max (-1) bb), .int .i64 (wrap64 (0 + ob))]) ∧ Below w.heap.size w w' := by
  obtain ⟨c0, c1, _, _, hg⟩ := sy_at h nb hnb
  rw [eb] at c0 c1
  simp only at c0 c1
  have hml := hm ▸ hnb
  have hx : m ≤ maxLen := by obtain ⟨_, _, _, hv, _, _, h1, h2, _⟩ := h.parts SyOk; cases hv; omega
  have hmx := maxLen_lt
  have hg1 : g < w.heap.size + 1 := by omega
  have hg2 : g < w.heap.size + 1 + 1 := by omega
  have hg3 : g < w.heap.size + 1 + 1 + 1 := by omega
  have hg4 : g < w.heap.size + 1 + 1 + 1 + 1 := by omega
  clear h eb
  rcases hop with rfl | rfl
  · go_enter Try.func54, Try.ntmps54
    go_wp2
    go_region
    all_goals go_wp2
    all_goals (try simp only [Exit.inBlock, Exit.then])
    all_goals first | omega | skip
    all_goals
      refine bodyPost_ret (v := .agg #[.int .i64 n, .int .i64 _, .int .i64 _, .int .i64 _]) (by simp [results, Try.results54, go_sem]; exact ⟨rfl, rfl, rfl⟩) rfl ⟨?_, (below4 w _ _ _ _).drew⟩
      exact spl_eq (by omega) (by omega) (by first | rfl | simp [Int.add_comm])
  · go_enter Try.func54, Try.ntmps54
    go_wp2
    go_region
    all_goals go_wp2
    all_goals (try simp only [Exit.inBlock, Exit.then])
    all_goals first | omega | skip
    all_goals
      refine bodyPost_ret (v := .agg #[.int .i64 n, .int .i64 _, .int .i64 _, .int .i64 _]) (by simp [results, Try.results54, go_sem]; exact ⟨rfl, rfl, rfl⟩) rfl ⟨?_, (below4 w _ _ _ _).drew⟩
      exact spl_eq (by omega) (by omega) (by first | rfl | simp [Int.add_comm])
set_option maxRecDepth 100000 in
set_option maxHeartbeats 4000000 in
theorem l06Place_some (op d c n : Int) (nb : Nat) (t : ByteArray) (l : List Sym) (hop : op = 3 ∨ op = 4) (w : World) (B g m cap : Nat) (h : OwnE SyE w B (.slice (some ⟨g, 0, none⟩) m cap) l) (hm : m = l.length) (hnb : nb < l.length) (bb ob : Int) (eb : l[nb] = ⟨bb, ob⟩) (na : Nat) (hna : na < l.length) (ba oa : Int) (ea : l[na] = ⟨ba, oa⟩) :
    Calls Try.prog 54 #[.agg #[.int .i64 op, .int .i64 d, .int .i64 (na : Int), .int .i64 (nb : Int), .int .i64 c, .int .i64 n, .string t], .slice (some ⟨g, 0, none⟩) m cap] w fun e w' => e = .returned (.agg #[.int .i64 n, .int .i64 (min ba bb), .int .i64 (max ba bb), .int .i64 (wrap64 (oa + ob))]) ∧ Below w.heap.size w w' := by
  obtain ⟨c0, c1, _, _, hg⟩ := sy_at h nb hnb
  rw [eb] at c0 c1
  simp only at c0 c1
  obtain ⟨k0, k1, _, _, _⟩ := sy_at h na hna
  rw [ea] at k0 k1
  simp only at k0 k1
  have hmk := hm ▸ hna
  have hml := hm ▸ hnb
  have hx : m ≤ maxLen := by obtain ⟨_, _, _, hv, _, _, h1, h2, _⟩ := h.parts SyOk; cases hv; omega
  have hmx := maxLen_lt
  have hg1 : g < w.heap.size + 1 := by omega
  have hg2 : g < w.heap.size + 1 + 1 := by omega
  have hg3 : g < w.heap.size + 1 + 1 + 1 := by omega
  have hg4 : g < w.heap.size + 1 + 1 + 1 + 1 := by omega
  clear h eb ea
  rcases hop with rfl | rfl
  · go_enter Try.func54, Try.ntmps54
    go_wp2
    go_region
    all_goals go_wp2
    all_goals (try simp only [Exit.inBlock, Exit.then])
    all_goals first | omega | skip
    all_goals
      refine bodyPost_ret (v := .agg #[.int .i64 n, .int .i64 _, .int .i64 _, .int .i64 _]) (by simp [results, Try.results54, go_sem]; exact ⟨rfl, rfl, rfl⟩) rfl ⟨?_, (below4 w _ _ _ _).drew⟩
      exact spl_eq (by omega) (by omega) (by first | rfl | simp [Int.add_comm])
  · go_enter Try.func54, Try.ntmps54
    go_wp2
    go_region
    all_goals go_wp2
    all_goals (try simp only [Exit.inBlock, Exit.then])
    all_goals first | omega | skip
    all_goals
      refine bodyPost_ret (v := .agg #[.int .i64 n, .int .i64 _, .int .i64 _, .int .i64 _]) (by simp [results, Try.results54, go_sem]; exact ⟨rfl, rfl, rfl⟩) rfl ⟨?_, (below4 w _ _ _ _).drew⟩
      exact spl_eq (by omega) (by omega) (by first | rfl | simp [Int.add_comm])
end Go.Proofs.Ytgiboadcfnfooab
