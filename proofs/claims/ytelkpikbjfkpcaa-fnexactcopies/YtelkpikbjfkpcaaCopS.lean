/- The contract of spec.l09Made (written by wip/mkcops.py). -/
import Derived.Test.YtelkpikbjfkpcaaFldPG
import Derived.Test.YtelkpikbjfkpcaaDefS
import Derived.Deep.CutRange
import Derived.Deep.RegionHeld3
import Derived.Deep.LoopGhost
namespace Go.Proofs.Ytelkpikbjfkpcaa
open Go.ChangeShapes Go.WideShapes Go.ChangeAt Go.RowKit
/-- As far as the loop has come. -/
def madeM (f : Int → Int) (d : Int) (i : Nat) : Int → Int := fun s => if s < (i : Int) ∧ f s = d then s else f s
structure MdAt (ob V : Nat) (w : World) (y : Array Value) (f : Int → Int) (W : World) : Prop where
  bx : W.heap[w.heap.size]? = some (.cells y 45 (0, 0))
  of : OfAt ob V f W
  but : But ob w W
theorem MdAt.stays {ob V : Nat} {w W W' : World} {y : Array Value} {f : Int → Int} (h : MdAt ob V w y f W) (b : Below W.heap.size W W') : MdAt ob V w y f W' :=
  ⟨(b.block _ (Array.getElem?_eq_some_iff.1 h.bx).1).trans h.bx, h.of.stays b, ⟨b.os.trans h.but.os, b.tape.trans h.but.tape, b.output.trans h.but.output, Nat.le_trans h.but.size b.size, fun k hk hne => (b.block k (Nat.lt_of_lt_of_le hk h.but.size)).trans (h.but.block k hk hne)⟩⟩
theorem MdAt.drew {ob V : Nat} {w W : World} {y : Array Value} {f : Int → Int} (h : MdAt ob V w y f W) : MdAt ob V w y f W.drew := h.stays (Below.refl _ _).drew
theorem MdAt.set {ob V : Nat} {w W : World} {y : Array Value} {f f' : Int → Int} (h : MdAt ob V w y f W) (ho : ob < w.heap.size) {d : Nat} (hd : d < V) {v : Int} (e : ∀ s : Nat, s < V → (if (s : Int) = (d : Int) then v else f s) = f' s) : MdAt ob V w y f' (W.setCell ⟨ob, d, none⟩ (.int .i64 v)) := by
  have hb : But ob W (W.setCell ⟨ob, d, none⟩ (.int .i64 v)) := (But.refl ob W).set _ _
  exact ⟨(hb.block _ (Array.getElem?_eq_some_iff.1 h.bx).1 (by omega)).trans h.bx, (h.of.set hd v).congr e, ⟨hb.os.trans h.but.os, hb.tape.trans h.but.tape, hb.output.trans h.but.output, Nat.le_trans h.but.size hb.size, fun k hk hne => (hb.block k (Nat.lt_of_lt_of_le hk h.but.size) hne).trans (h.but.block k hk hne)⟩⟩
set_option maxRecDepth 100000 in
set_option maxHeartbeats 8000000 in
theorem made09_any (x : Ins) (f : Int → Int) (V : Nat) (w : World) (ob cap : Nat) (h : OfAt ob V f w) (hd : ¬ (x.op = 4 ∨ x.op = 6) → 0 ≤ x.d ∧ x.d < V) (hV : V ≤ 1000) :
    Calls Try.prog 34 #[.agg (insV x), .slice (some ⟨ob, 0, none⟩) V cap] w fun e w' => e = .returned (.tuple #[]) ∧ OfAt ob V (madeX f x) w' ∧ But ob w w' := by
  obtain ⟨op, d, a, b0, c0, nn, t⟩ := x
  simp only [insV]
  simp only at hd
  have ho := h.lt
  have al := (Below.refl w.heap.size w).alloc (Nat.le_refl _) (.cells #[.int .i64 op, .int .i64 d, .int .i64 a, .int .i64 b0, .int .i64 c0, .int .i64 nn, .string t] 45)
  have bx : (w.alloc (.cells #[.int .i64 op, .int .i64 d, .int .i64 a, .int .i64 b0, .int .i64 c0, .int .i64 nn, .string t] 45)).heap[w.heap.size]? = some (.cells #[.int .i64 op, .int .i64 d, .int .i64 a, .int .i64 b0, .int .i64 c0, .int .i64 nn, .string t] 45 (0, 0)) := by show (w.heap.push _)[w.heap.size]? = _; exact Array.getElem?_push_size
  have S1 : Hid (MdAt ob V w #[.int .i64 op, .int .i64 d, .int .i64 a, .int .i64 b0, .int .i64 c0, .int .i64 nn, .string t] f (w.alloc (.cells #[.int .i64 op, .int .i64 d, .int .i64 a, .int .i64 b0, .int .i64 c0, .int .i64 nn, .string t] 45))) := ⟨bx, h.stays al, ⟨al.os, al.tape, al.output, al.size, fun k hk _ => al.block k hk⟩⟩
  obtain ⟨W1, hW1⟩ : ∃ W1, w.alloc (.cells #[.int .i64 op, .int .i64 d, .int .i64 a, .int .i64 b0, .int .i64 c0, .int .i64 nn, .string t] 45) = W1 := ⟨_, rfl⟩
  rw [hW1] at S1
  have HW := hideP hW1
  clear al bx hW1 h
  obtain ⟨df, hdf⟩ : ∃ df, decide (op ≠ 4 ∧ op ≠ 6) = df := ⟨_, rfl⟩
  have HDF := hideP hdf
  have DE : Hid (∀ W, Calls Try.prog 41 #[.agg #[.int .i64 op, .int .i64 d, .int .i64 a, .int .i64 b0, .int .i64 c0, .int .i64 nn, .string t]] W fun e w' => e = .returned (.bool df) ∧ Below W.heap.size W w') := fun W => hdf ▸ def_any (⟨op, d, a, b0, c0, nn, t⟩ : Ins) W
  clear hdf
  go_enter Try.func34, Try.ntmps34
  go_upto_region 1 with fail
  rw [HW.out]
  clear HW
  have fc := (cells_of S1.out.bx).1
  have x0 := fc 0
  have x1 := fc 1
  have x2 := fc 2
  have x3 := fc 3
  have x4 := fc 4
  have x5 := fc 5
  have x6 := fc 6
  simp at x0 x1 x2 x3 x4 x5 x6
  clear fc
  go_wp2_with fail
  refine (DE.out W1).mono ?_
  rintro e2 w2 ⟨rfl, b2⟩
  have S2 := hideP (S1.out.stays b2)
  clear b2 S1 DE x0 x1 x2 x3 x4 x5 x6
  have fc := (cells_of S2.out.bx).1
  have x0 := fc 0
  have x1 := fc 1
  have x2 := fc 2
  have x3 := fc 3
  have x4 := fc 4
  have x5 := fc 5
  have x6 := fc 6
  simp at x0 x1 x2 x3 x4 x5 x6
  clear fc
  cases df with
  | false =>
    have EQ : Hid (madeX f (⟨op, d, a, b0, c0, nn, t⟩ : Ins) = f) := by
      have := HDF.out
      rw [decide_eq_false_iff_not] at this
      show _ = _
      unfold madeX
      rw [if_pos (by simp only; omega)]
    go_wp2
    refine bodyPost_ret (results_none rfl _ _ _) rfl ?_
    rw [EQ.out]
    exact ⟨rfl, S2.out.of, S2.out.but⟩
  | true =>
    have hop : op ≠ 4 ∧ op ≠ 6 := of_decide_eq_true HDF.out
    obtain ⟨dn, rfl⟩ : ∃ dn : Nat, d = dn := ⟨d.toNat, by have := hd (by omega); omega⟩
    have hdn : dn < V := by have := hd (by omega); omega
    by_cases hs : op = 1 ∧ a = dn
    · obtain ⟨rfl, rfl⟩ := hs
      have EQ : Hid (madeX f (⟨1, (dn : Int), (dn : Int), b0, c0, nn, t⟩ : Ins) = f) := by show _ = _; unfold madeX; rw [if_pos (by simp)]
      go_wp2
      refine bodyPost_ret (results_none rfl _ _ _) rfl ?_
      rw [EQ.out]
      exact ⟨rfl, S2.out.of, S2.out.but⟩
    · have EQ : Hid (∀ s : Nat, s < V → madeX f (⟨op, (dn : Int), a, b0, c0, nn, t⟩ : Ins) s = if (s : Int) = dn then (if op = 1 then a else dn) else if f s = dn then (s : Int) else f s) := fun s _ => by unfold madeX; rw [if_neg (by simp only; omega)]
      have S3 : Hid (MdAt ob V w #[.int .i64 op, .int .i64 (dn : Int), .int .i64 a, .int .i64 b0, .int .i64 c0, .int .i64 nn, .string t] (madeM f dn 0) w2) := ⟨S2.out.bx, S2.out.of.congr (fun s _ => by unfold madeM; rw [if_neg (by omega)]), S2.out.but⟩
      clear S2
      have hop1 : (op == 1 && a == (dn : Int)) = false := by
        by_cases e : op = 1
        · simp [e]; intro e2; exact hs ⟨e, e2⟩
        · simp [e]
      by_cases h1 : op = 1
      · have hane : (a == (dn : Int)) = false := by
          have : a ≠ dn := fun e => hs ⟨h1, e⟩
          simpa using this
        subst h1
        go_wp2
        clear x0 x1 x2 x3 x4 x5 x6
        go_loopg [4] V (fun gk i wr => ∃ j : Nat, gk + j = V ∧ i = .int .i64 j ∧ Hid (MdAt ob V w #[.int .i64 1, .int .i64 (dn : Int), .int .i64 a, .int .i64 b0, .int .i64 c0, .int .i64 nn, .string t] (madeM f dn j) wr))
        case atStart => exact ⟨0, by simp, rfl, S3.out⟩
        case round =>
          obtain ⟨j, hj, rfl, hS⟩ := hrel
          clear S3
          by_cases hlt : j < V
          · obtain ⟨o0, of0⟩ := hS.out.of.at hlt
            have e0 : madeM f dn j j = f j := by unfold madeM; rw [if_neg (by omega)]
            rw [e0] at o0
            have SK : Hid (wr.drew.cell? ⟨ob, j, none⟩ = some (.int .i64 (f j)) ∧ wr.drew.cell? ⟨w.heap.size, 1, none⟩ = some (.int .i64 (dn : Int))) := ⟨o0, (cells_of hS.out.bx).1 1⟩
            by_cases hf : f j = dn
            · have hfb : (f j == (dn : Int)) = true := by simpa using hf
              have N6 : Hid (MdAt ob V w #[.int .i64 1, .int .i64 (dn : Int), .int .i64 a, .int .i64 b0, .int .i64 c0, .int .i64 nn, .string t] (madeM f dn (j + 1)) (wr.drew.setCell ⟨ob, j, none⟩ (.int .i64 (j : Int)))) := hS.out.drew.set ho hlt (fun s hs' => by
                unfold madeM
                by_cases e : (s : Int) = j
                · rw [if_pos e, if_pos ⟨by omega, by rw [e]; exact hf⟩, e]
                · rw [if_neg e]
                  by_cases e2 : (s : Int) < j ∧ f s = dn
                  · rw [if_pos e2, if_pos ⟨by omega, e2.2⟩]
                  · rw [if_neg e2, if_neg (fun e3 => e2 ⟨by omega, e3.2⟩)])
              go_upto_region 5 with fail
              go_region_held3 (fun W' => W'.cell? ⟨ob, j, none⟩ = some (.int .i64 (f j)) ∧ W'.cell? ⟨w.heap.size, 1, none⟩ = some (.int .i64 (dn : Int))) (first | with_reducible exact SK.out) (first | fail)
              go_wp2
              go_roundg (V - (j + 1))
              case rel => exact ⟨j + 1, by omega, by go_num, N6.out⟩
              case measure => omega
            · have hfb : (f j == (dn : Int)) = false := by simpa using hf
              have N6 : Hid (MdAt ob V w #[.int .i64 1, .int .i64 (dn : Int), .int .i64 a, .int .i64 b0, .int .i64 c0, .int .i64 nn, .string t] (madeM f dn (j + 1)) wr.drew) := ⟨hS.out.drew.bx, hS.out.drew.of.congr (fun s hs' => by
                unfold madeM
                by_cases e : (s : Int) = j
                · rw [if_neg (by omega), if_neg (fun e3 => hf (by rw [← e]; exact e3.2))]
                · by_cases e2 : (s : Int) < j ∧ f s = dn
                  · rw [if_pos e2, if_pos ⟨by omega, e2.2⟩]
                  · rw [if_neg e2, if_neg (fun e3 => e2 ⟨by omega, e3.2⟩)]), hS.out.drew.but⟩
              go_upto_region 5 with fail
              go_region_held3 (fun W' => W'.cell? ⟨ob, j, none⟩ = some (.int .i64 (f j)) ∧ W'.cell? ⟨w.heap.size, 1, none⟩ = some (.int .i64 (dn : Int))) (first | with_reducible exact SK.out) (first | fail)
              go_wp2
              go_roundg (V - (j + 1))
              case rel => exact ⟨j + 1, by omega, by go_num, N6.out⟩
              case measure => omega
          · have hjn : j = V := by omega
            subst hjn
            have x0 := (cells_of hS.out.bx).1 0
            have x1 := (cells_of hS.out.bx).1 1
            have x2 := (cells_of hS.out.bx).1 2
            simp at x0 x1 x2
            obtain ⟨o0, of0⟩ := hS.out.of.at hdn
            have M7 : Hid (MdAt ob j w #[.int .i64 1, .int .i64 (dn : Int), .int .i64 a, .int .i64 b0, .int .i64 c0, .int .i64 nn, .string t] (fun s => if s = (dn : Int) then (dn : Int) else madeM f dn j s) (wr.setCell ⟨ob, dn, none⟩ (.int .i64 (dn : Int)))) := hS.out.set ho hdn (fun s _ => rfl)
            go_upto_region 8 with fail
            clear x0 x1 x2 o0 of0
            obtain ⟨W7, hW7⟩ : ∃ W7, wr.setCell ⟨ob, dn, none⟩ (.int .i64 (dn : Int)) = W7 := ⟨_, rfl⟩
            rw [hW7] at M7 ⊢
            clear hW7 hS
            have x0 := (cells_of M7.out.bx).1 0
            have x1 := (cells_of M7.out.bx).1 1
            have x2 := (cells_of M7.out.bx).1 2
            simp at x0 x1 x2
            obtain ⟨o0, of0⟩ := M7.out.of.at hdn
            have M9 : Hid (MdAt ob j w #[.int .i64 1, .int .i64 (dn : Int), .int .i64 a, .int .i64 b0, .int .i64 c0, .int .i64 nn, .string t] (madeX f (⟨1, (dn : Int), a, b0, c0, nn, t⟩ : Ins)) (W7.setCell ⟨ob, dn, none⟩ (.int .i64 a))) := M7.out.set ho hdn (fun s hs' => by
              rw [EQ.out s hs']
              by_cases e : (s : Int) = dn
              · rw [if_pos e, if_pos e]; simp
              · rw [if_neg e, if_neg e, if_neg e]
                unfold madeM
                by_cases e2 : f s = dn
                · rw [if_pos ⟨by omega, e2⟩, if_pos e2]
                · rw [if_neg (fun e3 => e2 e3.2), if_neg e2])
            go_wp2
            go_end0
            exact ⟨rfl, M9.out.of, M9.out.but⟩
      · have h1b : (op == 1) = false := by simpa using h1
        go_wp2
        clear x0 x1 x2 x3 x4 x5 x6
        go_loopg [4] V (fun gk i wr => ∃ j : Nat, gk + j = V ∧ i = .int .i64 j ∧ Hid (MdAt ob V w #[.int .i64 op, .int .i64 (dn : Int), .int .i64 a, .int .i64 b0, .int .i64 c0, .int .i64 nn, .string t] (madeM f dn j) wr))
        case atStart => exact ⟨0, by simp, rfl, S3.out⟩
        case round =>
          obtain ⟨j, hj, rfl, hS⟩ := hrel
          clear S3
          by_cases hlt : j < V
          · obtain ⟨o0, of0⟩ := hS.out.of.at hlt
            have e0 : madeM f dn j j = f j := by unfold madeM; rw [if_neg (by omega)]
            rw [e0] at o0
            have SK : Hid (wr.drew.cell? ⟨ob, j, none⟩ = some (.int .i64 (f j)) ∧ wr.drew.cell? ⟨w.heap.size, 1, none⟩ = some (.int .i64 (dn : Int))) := ⟨o0, (cells_of hS.out.bx).1 1⟩
            by_cases hf : f j = dn
            · have hfb : (f j == (dn : Int)) = true := by simpa using hf
              have N6 : Hid (MdAt ob V w #[.int .i64 op, .int .i64 (dn : Int), .int .i64 a, .int .i64 b0, .int .i64 c0, .int .i64 nn, .string t] (madeM f dn (j + 1)) (wr.drew.setCell ⟨ob, j, none⟩ (.int .i64 (j : Int)))) := hS.out.drew.set ho hlt (fun s hs' => by
                unfold madeM
                by_cases e : (s : Int) = j
                · rw [if_pos e, if_pos ⟨by omega, by rw [e]; exact hf⟩, e]
                · rw [if_neg e]
                  by_cases e2 : (s : Int) < j ∧ f s = dn
                  · rw [if_pos e2, if_pos ⟨by omega, e2.2⟩]
                  · rw [if_neg e2, if_neg (fun e3 => e2 ⟨by omega, e3.2⟩)])
              go_upto_region 5 with fail
              go_region_held3 (fun W' => W'.cell? ⟨ob, j, none⟩ = some (.int .i64 (f j)) ∧ W'.cell? ⟨w.heap.size, 1, none⟩ = some (.int .i64 (dn : Int))) (first | with_reducible exact SK.out) (first | fail)
              go_wp2
              go_roundg (V - (j + 1))
              case rel => exact ⟨j + 1, by omega, by go_num, N6.out⟩
              case measure => omega
            · have hfb : (f j == (dn : Int)) = false := by simpa using hf
              have N6 : Hid (MdAt ob V w #[.int .i64 op, .int .i64 (dn : Int), .int .i64 a, .int .i64 b0, .int .i64 c0, .int .i64 nn, .string t] (madeM f dn (j + 1)) wr.drew) := ⟨hS.out.drew.bx, hS.out.drew.of.congr (fun s hs' => by
                unfold madeM
                by_cases e : (s : Int) = j
                · rw [if_neg (by omega), if_neg (fun e3 => hf (by rw [← e]; exact e3.2))]
                · by_cases e2 : (s : Int) < j ∧ f s = dn
                  · rw [if_pos e2, if_pos ⟨by omega, e2.2⟩]
                  · rw [if_neg e2, if_neg (fun e3 => e2 ⟨by omega, e3.2⟩)]), hS.out.drew.but⟩
              go_upto_region 5 with fail
              go_region_held3 (fun W' => W'.cell? ⟨ob, j, none⟩ = some (.int .i64 (f j)) ∧ W'.cell? ⟨w.heap.size, 1, none⟩ = some (.int .i64 (dn : Int))) (first | with_reducible exact SK.out) (first | fail)
              go_wp2
              go_roundg (V - (j + 1))
              case rel => exact ⟨j + 1, by omega, by go_num, N6.out⟩
              case measure => omega
          · have hjn : j = V := by omega
            subst hjn
            have x0 := (cells_of hS.out.bx).1 0
            have x1 := (cells_of hS.out.bx).1 1
            have x2 := (cells_of hS.out.bx).1 2
            simp at x0 x1 x2
            obtain ⟨o0, of0⟩ := hS.out.of.at hdn
            have M7 : Hid (MdAt ob j w #[.int .i64 op, .int .i64 (dn : Int), .int .i64 a, .int .i64 b0, .int .i64 c0, .int .i64 nn, .string t] (fun s => if s = (dn : Int) then (dn : Int) else madeM f dn j s) (wr.setCell ⟨ob, dn, none⟩ (.int .i64 (dn : Int)))) := hS.out.set ho hdn (fun s _ => rfl)
            go_upto_region 8 with fail
            clear x0 x1 x2 o0 of0
            obtain ⟨W7, hW7⟩ : ∃ W7, wr.setCell ⟨ob, dn, none⟩ (.int .i64 (dn : Int)) = W7 := ⟨_, rfl⟩
            rw [hW7] at M7 ⊢
            clear hW7 hS
            have x0 := (cells_of M7.out.bx).1 0
            have x1 := (cells_of M7.out.bx).1 1
            have x2 := (cells_of M7.out.bx).1 2
            simp at x0 x1 x2
            have M9 : Hid (OfAt ob j (madeX f (⟨op, (dn : Int), a, b0, c0, nn, t⟩ : Ins)) W7) := M7.out.of.congr (fun s hs' => by
              rw [EQ.out s hs']
              by_cases e : (s : Int) = dn
              · rw [if_pos e, if_pos e, if_neg h1]
              · rw [if_neg e, if_neg e]
                unfold madeM
                by_cases e2 : f s = dn
                · rw [if_pos ⟨by omega, e2⟩, if_pos e2]
                · rw [if_neg (fun e3 => e2 e3.2), if_neg e2])
            go_wp2
            go_end0
            exact ⟨rfl, M9.out, M7.out.but⟩
end Go.Proofs.Ytelkpikbjfkpcaa
