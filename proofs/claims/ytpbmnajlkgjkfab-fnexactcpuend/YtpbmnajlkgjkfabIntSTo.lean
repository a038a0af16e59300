/- The contract of toIntSS: a copy in new memory. -/
import Derived.Test.YtpbmnajlkgjkfabIntSD
namespace Go.Proofs.Ytpbmnajlkgjkfab
open Go.ChangeShapes Go.WideShapes Go.ChangeAt Go.RowKit
theorem infoIntS : (Try.prog.info? 22).map (fun i => (i.zero, i.size, i.bytes)) = some (some (.slice none 0 0), 1, 24) := by kernel_rfl
set_option maxHeartbeats 1000000 in
theorem toIntSS_any (es : List Rw) (w : World) (B : Nat) (a' : Option Addr) (cap : Nat) (h : SlIs RwIs 1 w B a' es) (hs : slSz Rw.sz es ≤ 1048576) :
    Calls Try.prog 17 #[.slice a' es.length cap] w fun en w' => ∃ g, en = .returned (.slice (some ⟨g, 0, none⟩) es.length es.length) ∧ SlIs RwIs 1 w' w.heap.size (some ⟨g, 0, none⟩) es ∧ Below w.heap.size w w' := by
  have hl0 := h.1
  have hl : es.length ≤ 1048576 := by unfold slSz at hs; omega
  have hmk := make_n (P := Try.prog) Try.underlying23 infoIntS es.length hl (by decide)
  have H := hideP h
  have HS := hideP hs
  clear h hs
  go_enter Try.func17, Try.ntmps17
  go_wp2
  clear hmk
  go_loopw [4] (fun i wr => ∃ j : Nat, j ≤ es.length ∧ i = .int .i64 j ∧ Built RwIs 1 22 wr w.heap.size es j ∧ Below w.heap.size w wr) (fun i _ => es.length - (intOf i).toNat)
  case atStart => exact ⟨0, Nat.zero_le _, rfl, by have := built_start RwIs w #[Value.slice none 0 0] 1 22 es; simpa using this, (Below.refl _ _).alloc (Nat.le_refl _) _⟩
  case round =>
    obtain ⟨j, hj, rfl, hbt, bel⟩ := hrel
    by_cases hlt : j < es.length
    · obtain ⟨b', o', u, c, rfl, _, hb, k0, hx⟩ := Rw_get (H.out.stays RwKeeps bel) j hlt
      have HX := hideP hx
      have HB := hideP bel
      have HT := hideP hbt
      have hg := hbt.lt
      have hsz := bel.size
      clear hx bel hbt
      go_wp2_with fail
      refine (toIntS_any es[j] _ B _ _ HX.out (by have h1 := slSum_mem Rw.sz (List.getElem_mem hlt); have h2 := HS.out; unfold slSz at h2; unfold Rw.sz at h1 h2; omega)).mono ?_
      rintro e1 w1 ⟨g', rfl, hx1, bel1⟩
      have hb1 := HT.out.on RwKeeps bel1
      obtain ⟨hce, hfz⟩ := hb1.cells
      obtain ⟨d0, hd0⟩ := hce j (by omega)
      have HB1 := hideP hb1
      have HX1 : Hid (RwIs w1 (w.heap.size + 1) #[.slice (some ⟨g', 0, none⟩) es[j].length es[j].length] es[j]) := ⟨_, _, rfl, hx1.mono (show w.heap.size + 1 ≤ wr.heap.size by omega)⟩
      have hw1 : Hid (Below w.heap.size w w1) := HB.out.trans (bel1.mono hsz)
      clear bel1 k0 hb1 hx1 hce
      go_wp2
      go_roundw
      case rel => exact ⟨j + 1, by omega, by go_num, by have := HB1.out.step RwKeeps hlt (l := [.slice (some ⟨g', 0, none⟩) es[j].length es[j].length]) rfl HX1.out; rw [Nat.mul_one] at this; exact this, sets_below (Nat.le_refl _) [.slice (some ⟨g', 0, none⟩) es[j].length es[j].length] _ _ hw1.out⟩
      case measure => simp [intOf]; omega
    · have hjn : j = es.length := by omega
      subst hjn
      go_wp2
      go_ret
      exact ⟨_, rfl, hbt.is RwKeeps hl0 (Nat.le_refl _), bel⟩
end Go.Proofs.Ytpbmnajlkgjkfab
