/- The contracts of what the exact law of Lex does with a list of words: hold it against another, write into it, look whether it holds what was written. -/
import Derived.Test.YtjojcdjbplbdaafDoorLexSpec
import Derived.Test.YtjojcdjbplbdaafDoorMarks
namespace Go.Proofs.YtjojcdjbplbdaafDoor
open Go.ChangeShapes Go.WideShapes Go.ChangeAt Go.RowKit

/-- The slice begins at the head of block b and holds the words ts. -/
def ToksAt (w : World) (b : Nat) (ts : List (Tk × Nat)) : Prop := ∀ (i : Nat) (h : i < ts.length), w.cell? ⟨b, i * 4, none⟩ = some (.int .i64 ts[i].1.k) ∧ w.cell? ⟨b, i * 4 + 1, none⟩ = some (.string ⟨ts[i].1.t.toArray⟩) ∧ w.cell? ⟨b, i * 4 + 2, none⟩ = some (.int .i64 ts[i].1.n) ∧ w.cell? ⟨b, i * 4 + 3, none⟩ = some (.int .i64 ts[i].2)

set_option maxHeartbeats 400000 in
theorem eqToken_same (a c d : Int) (b : ByteArray) (w : World) :
    Calls Tryd.prog 24 #[.agg #[.int .i64 a, .string b, .int .i64 c, .int .i64 d], .agg #[.int .i64 a, .string b, .int .i64 c, .int .i64 d]] w fun e w' => e = .returned (.bool true) ∧ Below w.heap.size w w' := by
  go_enter Tryd.func24, Tryd.ntmps24
  go_wp2
  go_ret
  exact ⟨rfl, ((Below.refl _ _).alloc (Nat.le_refl _) _).alloc (by simp) _⟩
set_option maxHeartbeats 400000 in
theorem eqTokenS_same (ts : List (Tk × Nat)) (b1 b2 c1 c2 : Nat) (w : World) (hl : ts.length ≤ 10000000) (hb1 : b1 < w.heap.size) (hb2 : b2 < w.heap.size) (h1 : ToksAt w b1 ts) (h2 : ToksAt w b2 ts) :
    Calls Tryd.prog 9 #[.slice (some ⟨b1, 0, none⟩) ts.length c1, .slice (some ⟨b2, 0, none⟩) ts.length c2] w fun e w' => e = .returned (.bool true) ∧ Below w.heap.size w w' := by
  go_enter Tryd.func9, Tryd.ntmps9
  go_wp2
  go_loopw [5] (fun i wr => ∃ k : Nat, k ≤ ts.length ∧ i = .int .i64 k ∧ Below w.heap.size w wr) (fun i _ => ts.length - (intOf i).toNat)
  case atStart => exact ⟨0, Nat.zero_le _, rfl, Below.refl _ _⟩
  case round =>
    obtain ⟨k, hk, rfl, bel⟩ := hrel
    by_cases hlt : k < ts.length
    · have hsz := bel.size
      obtain ⟨x, hx⟩ : ∃ x, ts[k] = x := ⟨_, rfl⟩
      have hp := h1 k hlt
      have hq := h2 k hlt
      rw [hx] at hp hq
      clear hx
      obtain ⟨⟨ka, tx, na, len⟩, ln⟩ := x
      obtain ⟨tb, htb⟩ : ∃ tb : ByteArray, (⟨tx.toArray⟩ : ByteArray) = tb := ⟨_, rfl⟩
      simp only [htb] at hp hq
      clear htb
      have p0 := (bel.cell (p := ⟨b1, k * 4, none⟩) hb1).trans hp.1
      have p1 := (bel.cell (p := ⟨b1, k * 4 + 1, none⟩) hb1).trans hp.2.1
      have p2 := (bel.cell (p := ⟨b1, k * 4 + 2, none⟩) hb1).trans hp.2.2.1
      have p3 := (bel.cell (p := ⟨b1, k * 4 + 3, none⟩) hb1).trans hp.2.2.2
      have q0 := (bel.cell (p := ⟨b2, k * 4, none⟩) hb2).trans hq.1
      have q1 := (bel.cell (p := ⟨b2, k * 4 + 1, none⟩) hb2).trans hq.2.1
      have q2 := (bel.cell (p := ⟨b2, k * 4 + 2, none⟩) hb2).trans hq.2.2.1
      have q3 := (bel.cell (p := ⟨b2, k * 4 + 3, none⟩) hb2).trans hq.2.2.2
      have BEL := hideP bel
      have H1 := hideP h1
      have H2 := hideP h2
      clear bel hp hq h1 h2
      go_wp2
      go_region_with (go_at_call 24; refine (eqToken_same ka na ln tb _).mono ?_; rintro e1 w1 ⟨rfl, bel1⟩)
      all_goals
        have hw1 : Below w.heap.size w w1 := by first | exact BEL.out.trans (bel1.mono hsz) | exact BEL.out.drew.trans (bel1.mono hsz) | exact BEL.out.drew.drew.trans (bel1.mono hsz)
        clear bel1 p0 p1 p2 p3 q0 q1 q2 q3
        go_wp2
        go_roundw
        case rel => exact ⟨k + 1, by omega, by go_num, hw1⟩
        case measure => simp [intOf]; omega
    · go_wp2
      go_ret
      exact ⟨rfl, bel⟩

/-- Cell number j of a list that was written into, the first one with k. -/
def markV (k j : Nat) : Value := if j % 4 = 1 then .string (markS (k + j)) else .int .i64 ((k + j : Nat) : Int)
/-- The first j words hold what was written. -/
def TMarked (cur : Array Value) (k j : Nat) : Prop := ∀ i, i < j * 4 → cur[i]? = some (markV k i)
theorem TMarked.step {cur : Array Value} {k j : Nat} (h : TMarked cur k j) (hj : (j + 1) * 4 ≤ cur.size) :
    TMarked ((((cur.setIfInBounds (j * 4) (.int .i64 ((k + j * 4 : Nat) : Int))).setIfInBounds (j * 4 + 1) (.string (markS (k + j * 4 + 1)))).setIfInBounds (j * 4 + 2) (.int .i64 ((k + j * 4 + 2 : Nat) : Int))).setIfInBounds (j * 4 + 3) (.int .i64 ((k + j * 4 + 3 : Nat) : Int))) k (j + 1) := by
  intro i hi
  simp only [Array.getElem?_setIfInBounds, Array.size_setIfInBounds]
  by_cases e3 : j * 4 + 3 = i
  · subst e3; rw [if_pos rfl, if_pos (by omega)]; unfold markV; rw [if_neg (by omega)]; rfl
  · rw [if_neg e3]
    by_cases e2 : j * 4 + 2 = i
    · subst e2; rw [if_pos rfl, if_pos (by omega)]; unfold markV; rw [if_neg (by omega)]; rfl
    · rw [if_neg e2]
      by_cases e1 : j * 4 + 1 = i
      · subst e1; rw [if_pos rfl, if_pos (by omega)]; unfold markV; rw [if_pos (by omega)]; rfl
      · rw [if_neg e1]
        by_cases e0 : j * 4 = i
        · subst e0; rw [if_pos rfl, if_pos (by omega)]; unfold markV; rw [if_neg (by omega)]
        · rw [if_neg e0]; exact h i (by omega)

theorem tmark_done {cur cu : Array Value} {k j m : Nat} (hmk : m = k + j * 4) (h : TMarked cur k j) (hcu : cur.setIfInBounds (j * 4) (.int .i64 m) = cu) (hj : (j + 1) * 4 ≤ cur.size) :
    TMarked (((cu.setIfInBounds (j * 4 + 1) (.string (markS (m + 1)))).setIfInBounds (j * 4 + 2) (.int .i64 ((m : Int) + 1 + 1))).setIfInBounds (j * 4 + 3) (.int .i64 ((m : Int) + 1 + 1 + 1))) k (j + 1) := by
  subst hmk; subst hcu
  have e2 : ((k + j * 4 : Nat) : Int) + 1 + 1 = ((k + j * 4 + 2 : Nat) : Int) := by omega
  have e3 : ((k + j * 4 : Nat) : Int) + 1 + 1 + 1 = ((k + j * 4 + 3 : Nat) : Int) := by omega
  rw [e3, e2]
  exact h.step hj

set_option maxHeartbeats 1000000 in
theorem markTokenS_any (n k b cap : Nat) (cur : Array Value) (e : TypeId) (w : World) (hk0 : 0 < k) (hk : k + n * 4 ≤ 100000000) (hn : n * 4 ≤ cur.size) (hcur : w.heap[b]? = some (.cells cur e (0, 0))) :
    Calls Tryd.prog 10 #[.slice (some ⟨b, 0, none⟩) n cap, .int .i64 k] w fun en w' => en = .returned (.int .i64 ((k + n * 4 : Nat) : Int)) ∧ But b w w' ∧ ∃ cur', w'.heap[b]? = some (.cells cur' e (0, 0)) ∧ cur'.size = cur.size ∧ TMarked cur' k n := by
  go_enter Tryd.func10, Tryd.ntmps10
  go_wp2
  go_loopw [1, 5] (fun kk i wr => ∃ j m : Nat, j ≤ n ∧ i = .int .i64 j ∧ kk = .int .i64 m ∧ Hid (m = k + j * 4) ∧ But b w wr ∧ ∃ cur', wr.heap[b]? = some (.cells cur' e (0, 0)) ∧ cur'.size = cur.size ∧ TMarked cur' k j) (fun _ i _ => n - (intOf i).toNat)
  case atStart => exact ⟨0, k, Nat.zero_le _, rfl, rfl, show _ = _ by simp, But.refl _ _, cur, hcur, rfl, fun i hi => absurd hi (by omega)⟩
  case round =>
    obtain ⟨j, m, hj, rfl, rfl, hmk, hbut, cur', hc', hs', hm'⟩ := hrel
    have hbw : b < wr.heap.size := (Array.getElem?_eq_some_iff.1 hc').1
    by_cases hlt : j < n
    · have hjc : j * 4 + 3 < cur'.size := by omega
      have hm0 : 0 < m := by have := hmk.out; omega
      have hm1 : m + 4 ≤ 100000000 := by have := hmk.out; omega
      have c0 : wr.cell? ⟨b, j * 4, none⟩ = some cur'[j * 4] := by simp [World.cell?, hc', show j * 4 < cur'.size by omega]
      have f0 : wr.frozen? ⟨b, j * 4, none⟩ = false := by simp [World.frozen?, hc']
      have HC := hideP hc'
      have HB := hideP hbut
      have HS := hideP hs'
      have HM := hideP hm'
      clear hc' hbut hs' hm' hcur
      go_wp2_with fail
      have ekj : ((m : Int) + 1) = ((m + 1 : Nat) : Int) := by omega
      rw [ekj]
      clear ekj
      refine (markText_any (m + 1) _ (by omega) (by omega)).mono ?_
      rintro e1 w1 ⟨rfl, bel1⟩
      have h0 := heap_setCell_same wr b (j * 4) cur' e (.int .i64 m) HC.out
      have hbs : b < (wr.setCell ⟨b, j * 4, none⟩ (.int .i64 m)).heap.size := (Array.getElem?_eq_some_iff.1 h0).1
      have h1 : w1.heap[b]? = some (.cells (cur'.setIfInBounds (j * 4) (.int .i64 m)) e (0, 0)) := (bel1.block b hbs).trans h0
      have hz1 : j * 4 + 3 < (cur'.setIfInBounds (j * 4) (.int .i64 m)).size := by rw [Array.size_setIfInBounds]; exact hjc
      obtain ⟨cu, hcu⟩ : ∃ cu, cur'.setIfInBounds (j * 4) (.int .i64 m) = cu := ⟨_, rfl⟩
      rw [hcu] at h1 hz1
      have c1 : w1.cell? ⟨b, j * 4 + 1, none⟩ = some cu[j * 4 + 1] := by simp [World.cell?, h1, show j * 4 + 1 < cu.size by omega]
      have c2 : w1.cell? ⟨b, j * 4 + 2, none⟩ = some cu[j * 4 + 2] := by simp [World.cell?, h1, show j * 4 + 2 < cu.size by omega]
      have c3 : w1.cell? ⟨b, j * 4 + 3, none⟩ = some cu[j * 4 + 3] := by simp [World.cell?, h1, hz1]
      have f1 : ∀ o, w1.frozen? ⟨b, o, none⟩ = false := fun o => by simp [World.frozen?, h1]
      have HB1 := hideP ((HB.out.set (j * 4) (.int .i64 m)).on bel1)
      have H1 := hideP h1
      have HCU := hideP hcu
      clear h0 h1 hcu bel1 c0 f0 hbs
      go_wp2
      go_roundw
      case rel =>
        refine ⟨j + 1, m + 4, by omega, by go_num, by go_num, show _ = _ by rw [hmk.out]; omega, ((HB1.out.set _ _).set _ _).set _ _, _, heap_setCell_same _ b _ _ e _ (heap_setCell_same _ b _ _ e _ (heap_setCell_same _ b _ _ e _ H1.out)), ?_, tmark_done hmk.out HM.out HCU.out (by omega)⟩
        rw [Array.size_setIfInBounds, Array.size_setIfInBounds, Array.size_setIfInBounds, ← HCU.out, Array.size_setIfInBounds, HS.out]
      case measure => simp [intOf]; omega
    · have hjn : j = n := by omega
      subst hjn
      go_wp2
      go_ret
      exact ⟨ret_int (by rw [hmk.out]), hbut, cur', hc', hs', hm'⟩

set_option maxHeartbeats 1000000 in
theorem heldTokenS_any (n k b cap : Nat) (w : World) (hk0 : 0 < k) (hk : k + n * 4 ≤ 100000000) (hb : b < w.heap.size) (hm : ∀ i, i < n * 4 → w.cell? ⟨b, i, none⟩ = some (markV k i)) :
    Calls Tryd.prog 11 #[.slice (some ⟨b, 0, none⟩) n cap, .int .i64 k] w fun en w' => en = .returned (.int .i64 ((k + n * 4 : Nat) : Int)) ∧ Below w.heap.size w w' := by
  go_enter Tryd.func11, Tryd.ntmps11
  go_wp2
  go_loopw [1, 5] (fun kk i wr => ∃ j m : Nat, j ≤ n ∧ i = .int .i64 j ∧ kk = .int .i64 m ∧ Hid (m = k + j * 4) ∧ Below w.heap.size w wr) (fun _ i _ => n - (intOf i).toNat)
  case atStart => exact ⟨0, k, Nat.zero_le _, rfl, rfl, show _ = _ by simp, Below.refl _ _⟩
  case round =>
    obtain ⟨j, m, hj, rfl, rfl, hmk, bel⟩ := hrel
    by_cases hlt : j < n
    · have hmk' := hmk.out
      have c0 : wr.cell? ⟨b, j * 4, none⟩ = some (.int .i64 m) := (bel.cell (p := ⟨b, j * 4, none⟩) hb).trans ((hm (j * 4) (by omega)).trans (by unfold markV; rw [if_neg (by omega), hmk']))
      have c1 : wr.cell? ⟨b, j * 4 + 1, none⟩ = some (.string (markS (m + 1))) := (bel.cell (p := ⟨b, j * 4 + 1, none⟩) hb).trans ((hm (j * 4 + 1) (by omega)).trans (by unfold markV; rw [if_pos (by omega), hmk']; rfl))
      have c2 : wr.cell? ⟨b, j * 4 + 2, none⟩ = some (.int .i64 ((m : Int) + 1 + 1)) := (bel.cell (p := ⟨b, j * 4 + 2, none⟩) hb).trans ((hm (j * 4 + 2) (by omega)).trans (by unfold markV; rw [if_neg (by omega), hmk']; congr 2))
      have c3 : wr.cell? ⟨b, j * 4 + 3, none⟩ = some (.int .i64 ((m : Int) + 1 + 1 + 1)) := (bel.cell (p := ⟨b, j * 4 + 3, none⟩) hb).trans ((hm (j * 4 + 3) (by omega)).trans (by unfold markV; rw [if_neg (by omega), hmk']; congr 2))
      have hsz := bel.size
      have hbw : b < wr.heap.size := by omega
      have hm0 : 0 < m := by omega
      have hm1 : m + 4 ≤ 100000000 := by omega
      have BEL := hideP bel
      clear bel hm hmk'
      go_wp2
      go_region_with (go_at_call 25; rw [show ((m : Int) + 1) = ((m + 1 : Nat) : Int) by omega]; refine (markText_any (m + 1) _ (by omega) (by omega)).mono ?_; rintro e1 w1 ⟨rfl, bel1⟩; have d1 : w1.cell? ⟨b, j * 4 + 1, none⟩ = some (.string (markS (m + 1))) := (bel1.cell (p := ⟨b, j * 4 + 1, none⟩) (by exact hbw)).trans (by exact c1))
      all_goals
        have d2 : w1.cell? ⟨b, j * 4 + 2, none⟩ = some (.int .i64 ((m : Int) + 1 + 1)) := (bel1.cell (p := ⟨b, j * 4 + 2, none⟩) (by exact hbw)).trans (by exact c2)
        have d3 : w1.cell? ⟨b, j * 4 + 3, none⟩ = some (.int .i64 ((m : Int) + 1 + 1 + 1)) := (bel1.cell (p := ⟨b, j * 4 + 3, none⟩) (by exact hbw)).trans (by exact c3)
        have hw1 : Hid (Below w.heap.size w w1) := by first | exact BEL.out.trans (bel1.mono hsz) | exact BEL.out.drew.trans (bel1.mono hsz) | exact BEL.out.drew.drew.trans (bel1.mono hsz)
        clear bel1 c0 c1 c2 c3 d1
        go_wp2
        go_roundw
        case rel => exact ⟨j + 1, m + 4, by omega, by go_num, by go_num, show _ = _ by rw [hmk.out]; omega, hw1.out⟩
        case measure => simp [intOf]; omega
    · have hjn : j = n := by omega
      subst hjn
      go_wp2
      go_ret
      exact ⟨ret_int (by rw [hmk.out]), bel⟩
end Go.Proofs.YtjojcdjbplbdaafDoor
