/- The contract of slices.DeleteFunc of numbers that are one number (the closure of impl.Plain). -/
import Derived.Test.YtooaoankloocmabAscK
import Derived.Test.YtooaoankloocmabShelfD
import Derived.Test.YtooaoankloocmabSetAll
import Derived.Lib.SliceRun
namespace Go.Proofs.Ytooaoankloocmab
open Go.ChangeShapes Go.WideShapes Go.ChangeAt Go.RowKit Go.Shelf Go.Lib Go.Sort
theorem gives36 (hd x : Int) (bx : Nat) (W : World) (hc : W.cell? ⟨bx, 0, none⟩ = some (.int .i64 hd)) :
    FnGives Try.prog 36 #[.pointer (some ⟨bx, 0, none⟩)] #[.int .i64 x] (.bool (decide (x = hd))) W := by
  show Calls Try.prog 36 #[.int .i64 x, .pointer (some ⟨bx, 0, none⟩)] W _
  go_enter Try.func36, Try.ntmps36
  go_wp2
  all_goals (go_ret; exact ⟨by first | rfl | simp_all | (by_cases e : x = hd <;> simp [e]), 0, rfl⟩)
theorem pred36 (hd : Int) (bx : Nat) (w : World) (hB : bx < w.heap.size) (hcell : w.cell? ⟨bx, 0, none⟩ = some (.int .i64 hd)) :
    PredAt Try.prog 36 #[.pointer (some ⟨bx, 0, none⟩)] (Value.int .i64) (fun x => decide (x = hd)) w :=
  fun W x hb => gives36 hd x bx W ((hb.cell (p := ⟨bx, 0, none⟩) hB).trans hcell)
theorem over36 (hd : Int) (bx blk off size : Nat) (w : World) (hB : bx < w.heap.size) (hne : bx ≠ blk) (hcell : w.cell? ⟨bx, 0, none⟩ = some (.int .i64 hd)) :
    PredOver Try.prog 36 #[.pointer (some ⟨bx, 0, none⟩)] (Value.int .i64) (fun x => decide (x = hd)) blk off size w :=
  fun n os dk x _ => gives36 hd x bx _ (by
    unfold sortWorld
    rw [cell?_grow _ _ _ (by show bx < (putRow _ _ _ _ _).heap.size; rw [size_putRow]; exact hB), cell?_putRow_other _ _ blk off _ _ (Or.inl hne)]
    exact hcell)
theorem delF_any (l : List Int) (hd : Int) (w : World) (B g cap bx : Nat) (h : OwnI w B (.slice (some ⟨g, 0, none⟩) l.length cap) l) (hB : bx < w.heap.size) (hne : bx ≠ g) (hcell : w.cell? ⟨bx, 0, none⟩ = some (.int .i64 hd)) (hl : l.length ≤ 1000000) :
    Calls Try.prog 35 #[.slice (some ⟨g, 0, none⟩) l.length cap, .func (.func 36) #[] #[.pointer (some ⟨bx, 0, none⟩)]] w fun e w' => e = .returned (.slice (some ⟨g, 0, none⟩) (l.filter fun x => !decide (x = hd)).length cap) ∧ OwnI w' B (.slice (some ⟨g, 0, none⟩) (l.filter fun x => !decide (x = hd)).length cap) (l.filter fun x => !decide (x = hd)) ∧ But g w w' := by
  obtain ⟨g', cap', cur, hv, hBg, hh, hc, hm, hs, hx⟩ := h.parts
  injection hv with e1 e2 e3
  injection e1 with e1
  injection e1 with e1
  subst e1 e3
  have eg : ∀ args w, (callFunc 36 args).run Try.prog w = .ok (.enter 36 args) w := enters_of Try.func36 (by kernel_rfl) rfl
  have hcon := AnyE.slices_DeleteFunc Try.delA (Value.int .i64) (fun _ => rfl) (fun x => decide (x = hd)) 36 #[.pointer (some ⟨bx, 0, none⟩)] eg 0 Try.zeroValue3 g 0 cap l.toArray w (pred36 hd bx w hB hcell) (over36 hd bx g 0 l.toArray.size w hB hne hcell) (own_holds h) (by simp; omega) (by simpa using hc)
  change Calls Try.prog 35 _ _ _ at hcon
  simp only [List.size_toArray] at hcon
  refine hcon.mono ?_
  rintro e w' ⟨rfl, q, rfl⟩
  obtain ⟨r, hr⟩ : ∃ r, (l.filter fun x => !decide (x = hd)) = r := ⟨_, rfl⟩
  have hrl : r.length ≤ l.length := by rw [← hr]; exact List.length_filter_le _ _
  simp only [hr]
  have key := own_put h (d := r ++ List.replicate (l.length - r.length) 0) (by rw [List.length_append, List.length_replicate]; omega) q #[]
  have eg0 : ∀ W : World, Sort.grow W #[] = W := fun W => by simp [Sort.grow]
  rw [eg0] at key
  exact ⟨trivial, key.1.pre, key.2⟩
end Go.Proofs.Ytooaoankloocmab
