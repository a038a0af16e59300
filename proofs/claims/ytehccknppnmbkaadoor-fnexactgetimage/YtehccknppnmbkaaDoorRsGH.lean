/- The contract of spec.l14Get. -/
import Derived.Test.YtehccknppnmbkaaDoorRdI
import Derived.Test.YtehccknppnmbkaaDoorRdG
namespace Go.Proofs.YtehccknppnmbkaaDoor
open Go.ChangeShapes Go.WideShapes Go.ChangeAt Go.RowKit
set_option maxHeartbeats 4000000 in
theorem l14Get_any (s : ByteArray) (p : Nat) (w : World) (hs : s.size ≤ 1048576) (hp : p + 8 ≤ s.size) :
    Calls Tryd.prog 34 #[.string s, .int .i64 (p : Int)] w fun e w' => e = .returned (.int .i64 (numAt s p)) ∧ w' = w := by
  have HV : Hid (numAt s p = wrap64 (accN s p 8 : Nat)) := rfl
  obtain ⟨V, hV⟩ : ∃ V, numAt s p = V := ⟨_, rfl⟩
  rw [hV] at HV ⊢
  clear hV
  go_enter Tryd.func34, Tryd.ntmps34
  go_wp2
  go_loopg [5, 6] 8 (fun gk x j wr => ∃ (k : Nat), gk + k = 8 ∧ j = .int .i64 k ∧ x = .int .u64 (accN s p k : Nat) ∧ wr = w)
  case atStart => exact ⟨0, rfl, rfl, rfl, rfl⟩
  case round =>
    obtain ⟨k, hk, rfl, rfl, rfl⟩ := hrel
    by_cases hlt : k < 8
    · have hks : p + k < s.size := by omega
      have hU := accN_few s p k hlt
      have hb := byteN_lt s (p + k)
      have hbe := byteN_at hks
      have OB : Hid (accN s p (k + 1) = accN s p k * 256 + s[p + k].toNat) := by show _ = _; rw [← hbe]; rfl
      have hb2 : s[p + k].toNat < 256 := by rw [← hbe]; exact hb
      clear hb hbe
      go_wp2
      go_roundg (8 - (k + 1))
      case rel => exact ⟨k + 1, by omega, by go_num, by rw [OB.out]; simp; omega, rfl⟩
      case measure => omega
    · have hk8 : k = 8 := by omega
      subst hk8
      go_wp2
      go_ret
      exact ⟨by rw [HV.out]; rfl, rfl⟩
theorem l14Get_at (s : ByteArray) (p : Nat) (x : Int) (w : World) (hs : s.size ≤ 1048576) (hp : p + 8 ≤ s.size) (hx : x = (p : Int)) :
    Calls Tryd.prog 34 #[.string s, .int .i64 x] w fun e w' => e = .returned (.int .i64 (numAt s p)) ∧ w' = w := by
  subst hx; exact l14Get_any s p w hs hp
end Go.Proofs.YtehccknppnmbkaaDoor

/- What lies where while the specification reads an image. -/
namespace Go.Proofs.YtehccknppnmbkaaDoor
open Go.ChangeShapes Go.WideShapes Go.ChangeAt Go.RowKit
/-- The result's cell at n, the image's at n + 1; the lists are made later. -/
structure RsAt (n : Nat) (vS : Value) (p q : Int) (vC : Value) (l1 : List Int) (l2 : List Wrd) (w wr : World) : Prop where
  rs : wr.heap[n]? = some (.cells zC 32 (0, 0))
  im : wr.heap[n + 1]? = some (.cells #[vS, .int .i64 p, .int .i64 q, vC] 32 (0, 0))
  o1 : OwnN IntE wr (n + 2) vS l1
  o2 : OwnN WrE wr (n + 2) vC l2
  bel : Below n w wr
section
variable {n : Nat} {vS : Value} {p q : Int} {vC : Value} {l1 : List Int} {l2 : List Wrd} {w wr : World}
theorem RsAt.few (h : RsAt n vS p q vC l1 l2 w wr) : n + 2 ≤ wr.heap.size := (Array.getElem?_eq_some_iff.1 h.im).1
theorem RsAt.drew (h : RsAt n vS p q vC l1 l2 w wr) : RsAt n vS p q vC l1 l2 w wr.drew := ⟨h.rs, h.im, h.o1, h.o2, h.bel.drew⟩
theorem RsAt.stays (h : RsAt n vS p q vC l1 l2 w wr) {w' : World} (b : Below wr.heap.size wr w') : RsAt n vS p q vC l1 l2 w w' :=
  ⟨keepR h.rs b, keepR h.im b, h.o1.keep fun g _ hl => b.block g hl, h.o2.keep fun g _ hl => b.block g hl, h.bel.trans (b.mono (by have := h.few; omega))⟩
/-- A size more. -/
theorem RsAt.app1 (h : RsAt n vS p q vC l1 l2 w wr) {w' : World} {v' : Value} {l' : List Int} (g : wr.grownBy w' vS.ownBlock) (o : OwnN IntE w' (n + 2) v' l') : RsAt n v' p q vC l' l2 w (w'.setCell ⟨n + 1, 0, none⟩ v') ∧ w'.cell? ⟨n + 1, 0, none⟩ = some vS ∧ w'.frozen? ⟨n + 1, 0, none⟩ = false := by
  have low : ∀ b, b < n + 2 → b < wr.heap.size → w'.heap[b]? = wr.heap[b]? := fun b hb hl => g.block b hl (fun e => by have := (h.o1.low b e.symm).1; omega)
  have hf := h.few
  have i2 := (low (n + 1) (by omega) (by omega)).trans h.im
  have bs := (But.refl (n + 1) w').set 0 v'
  have o2 : OwnN WrE w' (n + 2) vC l2 := own_other (by decide) h.o1 h.o2 g
  have im' : (w'.setCell ⟨n + 1, 0, none⟩ v').heap[n + 1]? = some (.cells #[v', .int .i64 p, .int .i64 q, vC] 32 (0, 0)) := by rw [heap_setCell_same w' (n + 1) 0 _ _ v' i2]; rfl
  refine ⟨⟨keepB ((low n (by omega) (by omega)).trans h.rs) bs (by omega), im', o.keep fun b hb hl => bs.block b hl (by omega), o2.keep fun b hb hl => bs.block b hl (by omega), ?_⟩, (cells_of i2).1 0, (cells_of i2).2 0⟩
  have b1 : Below n wr w' := ⟨g.os, g.tape, g.output, g.size, fun b hb => low b (by omega) (by omega)⟩
  exact (h.bel.trans b1).trans (bs.below (by omega) (by have := g.size; omega))
/-- A word more. -/
theorem RsAt.app2 (h : RsAt n vS p q vC l1 l2 w wr) {w' : World} {v' : Value} {l' : List Wrd} (g : wr.grownBy w' vC.ownBlock) (o : OwnN WrE w' (n + 2) v' l') : RsAt n vS p q v' l1 l' w (w'.setCell ⟨n + 1, 3, none⟩ v') ∧ w'.cell? ⟨n + 1, 3, none⟩ = some vC ∧ w'.frozen? ⟨n + 1, 3, none⟩ = false := by
  have low : ∀ b, b < n + 2 → b < wr.heap.size → w'.heap[b]? = wr.heap[b]? := fun b hb hl => g.block b hl (fun e => by have := (h.o2.low b e.symm).1; omega)
  have hf := h.few
  have i2 := (low (n + 1) (by omega) (by omega)).trans h.im
  have bs := (But.refl (n + 1) w').set 3 v'
  have o1 : OwnN IntE w' (n + 2) vS l1 := own_other (by decide) h.o2 h.o1 g
  have im' : (w'.setCell ⟨n + 1, 3, none⟩ v').heap[n + 1]? = some (.cells #[vS, .int .i64 p, .int .i64 q, v'] 32 (0, 0)) := by rw [heap_setCell_same w' (n + 1) 3 _ _ v' i2]; rfl
  refine ⟨⟨keepB ((low n (by omega) (by omega)).trans h.rs) bs (by omega), im', o1.keep fun b hb hl => bs.block b hl (by omega), o.keep fun b hb hl => bs.block b hl (by omega), ?_⟩, (cells_of i2).1 3, (cells_of i2).2 3⟩
  have b1 : Below n wr w' := ⟨g.os, g.tape, g.output, g.size, fun b hb => low b (by omega) (by omega)⟩
  exact (h.bel.trans b1).trans (bs.below (by omega) (by have := g.size; omega))
theorem RsAt.put1 (h : RsAt n vS p q vC l1 l2 w wr) (z : Int) : RsAt n vS z q vC l1 l2 w (wr.setCell ⟨n + 1, 1, none⟩ (.int .i64 z)) := by
  have bs := (But.refl (n + 1) wr).set 1 (.int .i64 z)
  have hf := h.few
  refine ⟨keepB h.rs bs (by omega), ?_, h.o1.keep fun b hb hl => bs.block b hl (by omega), h.o2.keep fun b hb hl => bs.block b hl (by omega), h.bel.trans (bs.below (by omega) (by omega))⟩
  rw [heap_setCell_same wr (n + 1) 1 _ _ _ h.im]; rfl
theorem RsAt.put2 (h : RsAt n vS p q vC l1 l2 w wr) (z : Int) : RsAt n vS p z vC l1 l2 w (wr.setCell ⟨n + 1, 2, none⟩ (.int .i64 z)) := by
  have bs := (But.refl (n + 1) wr).set 2 (.int .i64 z)
  have hf := h.few
  refine ⟨keepB h.rs bs (by omega), ?_, h.o1.keep fun b hb hl => bs.block b hl (by omega), h.o2.keep fun b hb hl => bs.block b hl (by omega), h.bel.trans (bs.below (by omega) (by omega))⟩
  rw [heap_setCell_same wr (n + 1) 2 _ _ _ h.im]; rfl
end
end Go.Proofs.YtehccknppnmbkaaDoor
