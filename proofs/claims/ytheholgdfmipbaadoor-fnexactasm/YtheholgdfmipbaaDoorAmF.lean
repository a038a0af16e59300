/- The contract of impl.wordForms: the forms of the words, cut from one row. -/
import Derived.Test.YtheholgdfmipbaaDoorAmP
import Derived.Test.YtheholgdfmipbaaDoorWords
import Derived.Test.YtheholgdfmipbaaDoorOwnG
import Derived.Deep.LoopGhost
namespace Go.Proofs.YtheholgdfmipbaaDoor
open Go.ChangeShapes Go.WideShapes Go.ChangeAt Go.RowKit
/-- Parts of the row in block b as the elements of a list: where one begins, how many. -/
def FmE (b : Nat) : Elem (Nat × Nat) := { T := 50, ST := 52, sz := 1, bys := 24, z := .slice none 0 0, cs := fun x => [.slice (some ⟨b, x.1, none⟩) x.2 x.2] }
theorem FmOk (b : Nat) : (FmE b).Ok where
  und := Tryd.underlying52
  info := by kernel_rfl
  zs := rfl
  pos := show 0 < 1 by decide
  few := show 24 ≤ 1000 by decide
  len := fun _ => rfl
  one := fun x u hu => by simp [FmE] at hu; subst hu; rfl
def fcT : List Nat := [0, 0, 0, 1, 1, 1, 2, 2, 2, 3, 3, 3, 3, 3, 4, 4, 4, 4, 5, 5, 5, 5, 6, 6, 7, 7, 8, 8, 9, 9, 9, 10, 10, 11, 11, 11, 12]
def frT : List Nat := [0, 0, 0, 3, 3, 3, 6, 6, 6, 9, 9, 9, 9, 9, 14, 14, 14, 14, 18, 18, 18, 18, 22, 22, 24, 24, 26, 26, 28, 28, 28, 31, 31, 33, 33, 33, 36]
def fmsT : List (Nat × Nat) := [(0, 2), (3, 2), (6, 2), (9, 4), (14, 3), (18, 3), (22, 1), (24, 1), (26, 1), (28, 2), (31, 1), (33, 2)]
def semi (k : Nat) : Bool := (tokA.getD k (wd [])).data.toList == [59]
set_option maxRecDepth 100000 in
theorem fm_yes : ∀ k, k < 36 → semi k = true → fcT.getD (k + 1) 0 = fcT.getD k 0 + 1 ∧ fcT.getD k 0 < 12 ∧ fmsT[fcT.getD k 0]? = some (frT.getD k 0, k - frT.getD k 0) ∧ frT.getD (k + 1) 0 = k + 1 ∧ frT.getD k 0 < k := by decide
set_option maxRecDepth 100000 in
theorem fm_no : ∀ k, k < 36 → semi k = false → fcT.getD (k + 1) 0 = fcT.getD k 0 ∧ frT.getD (k + 1) 0 = frT.getD k 0 ∧ frT.getD k 0 ≤ k := by decide
theorem fm_take {l : List (Nat × Nat)} {c : Nat} {x : Nat × Nat} (h : l[c]? = some x) : l.take c ++ [x] = l.take (c + 1) := by
  obtain ⟨hc, hx⟩ := List.getElem?_eq_some_iff.1 h
  rw [List.take_succ_eq_append_getElem hc, hx]
set_option maxRecDepth 100000 in
theorem row_toks : wordsL rowTxt = tokA.map (fun b : ByteArray => b.data.toList) := by kernel_rfl
theorem OwnE.boxF {α : Type} {E : Elem α} (O : E.Ok) {w w' : World} {B bx : Nat} {v : Value} {l : List α} {cs : Array Value} {T : TypeId} (h : OwnE E w B v l) (hT : T ≠ E.T) (hx : w.heap[bx]? = some (.cells cs T (0, 0))) (gr : w.grownBy w' v.ownBlock) : w'.heap[bx]? = some (.cells cs T (0, 0)) := by
  refine (gr.block bx (Array.getElem?_eq_some_iff.1 hx).1 (fun e => ?_)).trans hx
  obtain ⟨g, cap, cur, hv, _, hh, _⟩ := h.parts O
  rw [hv] at e
  have e2 : g = bx := by simpa [Value.ownBlock] using e.symm
  subst e2
  rw [hx] at hh
  simp at hh
  exact hT hh.2
theorem newF (w : World) (o : Obj) : (w.alloc o).heap[w.heap.size]? = some o := by show (w.heap.push o)[w.heap.size]? = _; exact Array.getElem?_push_size
set_option maxHeartbeats 8000000 in
set_option maxRecDepth 100000 in
theorem wordForms_any (m : Int) (w : World) (hm : w.cell? ⟨4, 0, none⟩ = some (.int .i64 m)) :
    Calls Tryd.prog 30 #[] w fun e w' => ∃ b g c, e = .returned (.slice (some ⟨g, 0, none⟩) 12 c) ∧ OwnE (FmE b) w' w.heap.size (.slice (some ⟨g, 0, none⟩) 12 c) fmsT ∧ w.heap.size ≤ b ∧ w'.heap[b]? = some (.cells (tokA.map Value.string).toArray 9 (0, 0)) ∧ Below w.heap.size w w' := by
  have IW := hideP (impl_words ⟨rowTxt.toArray⟩ m w (by decide) hm)
  clear hm
  go_enter Tryd.func30, Tryd.ntmps30
  go_wp2_with fail
  refine IW.out.mono ?_
  rintro e1 w1 ⟨b, ps, rfl, hb, hps, hh, b1⟩
  obtain rfl : ps = tokA := bytes_inj (hps.out.trans row_toks)
  have HH := hideP hh
  have B1 := hideP b1
  have HBb : Hid (w.heap.size ≤ b) := hb
  clear hh b1 hps hb
  obtain ⟨W, hW⟩ : ∃ W, w1.alloc (.cells #[] 50) = W := ⟨_, rfl⟩
  have al : Below w1.heap.size w1 W := hW ▸ (Below.refl w1.heap.size w1).alloc (Nat.le_refl _) (.cells #[] 50)
  have O1 : Hid (OwnE (FmE b) W w.heap.size (.slice (some ⟨w1.heap.size, 0, none⟩) 0 0) []) := hW ▸ (own_nil (FmOk b) w1 w1.heap.size rfl).mono B1.out.size
  replace HH := hideP ((al.block b (Array.getElem?_eq_some_iff.1 HH.out).1).trans HH.out)
  have BW := hideP (below_trans B1.out al)
  have HW := hideP hW
  have e36 : tokA.length = 36 := rfl
  clear al hW B1
  rw [e36]
  go_upto_region 3 with fail
  rw [HW.out]
  clear HW
  go_wp2
  go_loopg [2, 3, 10] 36 (fun gk l f i wr => ∃ (k : Nat), gk + k = 36 ∧ i = .int .i64 k ∧ f = .int .i64 (frT.getD k 0 : Nat) ∧ Hid (OwnE (FmE b) wr w.heap.size l (fmsT.take (fcT.getD k 0))) ∧ Hid (wr.heap[b]? = some (.cells (tokA.map Value.string).toArray 9 (0, 0))) ∧ Hid (Below w.heap.size w wr))
  case atStart => exact ⟨0, by simp, rfl, rfl, O1.out, HH.out, BW.out⟩
  case round =>
    obtain ⟨k, hk, rfl, rfl, ho, hh, bw⟩ := hrel
    obtain ⟨gl, cl, hl, _⟩ := id ho.out
    by_cases hlt : k < 36
    · have c0 : wr.cell? ⟨b, k, none⟩ = some (.string (tokA.getD k (wd []))) := by
        rw [(cells_of hh.out).1, List.getElem?_toArray, List.getElem?_map, List.getElem?_eq_getElem (show k < tokA.length from hlt), List.getD_eq_getElem?_getD, List.getElem?_eq_getElem (show k < tokA.length from hlt)]
        rfl
      by_cases hs : semi k = true
      · obtain ⟨s1, s2, s3, s4, s5⟩ := fm_yes k hlt hs
        have S4 := hideP s4
        have hE : ((tokA.getD k (wd [])).toList == [59]) = true := by rw [Lib.toList_data]; exact hs
        obtain ⟨tk, htk⟩ : ∃ tk, tokA.getD k (wd []) = tk := ⟨_, rfl⟩
        obtain ⟨f, hf⟩ : ∃ f, frT.getD k 0 = f := ⟨_, rfl⟩
        obtain ⟨L, hL⟩ : ∃ L, fmsT.take (fcT.getD k 0) = L := ⟨_, rfl⟩
        have HLE : Hid (L ++ [(f, k - f)] = fmsT.take (fcT.getD (k + 1) 0)) := by
          show _ = _
          rw [← hL, ← hf, s1]; exact fm_take s3
        have hlen : L.length ≤ 12 := by rw [← hL, List.length_take]; have : fmsT.length = 12 := rfl; omega
        rw [hL] at ho hl
        rw [htk] at c0 hE
        rw [hf] at s5 ⊢
        have al := (Below.refl wr.heap.size wr).alloc (Nat.le_refl _) (.cells #[.slice (some ⟨b, f, none⟩) (k - f) (k - f)] 50)
        have OA := hideP (ho.out.stays al)
        have HA := hideP ((al.block b (Array.getElem?_eq_some_iff.1 hh.out).1).trans hh.out)
        have BA := hideP (below_trans bw.out al)
        have hwr := bw.out.size
        have CQ : Hid (∀ r, r < (FmE b).sz → (wr.alloc (.cells #[.slice (some ⟨b, f, none⟩) (k - f) (k - f)] 50)).cell? ⟨wr.heap.size, 0 + r, none⟩ = ((FmE b).cs (f, k - f))[r]?) := fun r hr => by
          have hr0 : r = 0 := by have : r < 1 := hr; omega
          subst hr0
          rw [(cells_of (newF wr (.cells #[.slice (some ⟨b, f, none⟩) (k - f) (k - f)] 50))).1]; rfl
        subst hl
        clear hs htk hf hL s1 s2 s3 s4 al
        go_wp2_with (at_builtin; refine list_appE (FmOk b) _ rfl _ _ rfl w.heap.size _ L (f, k - f) wr.heap.size 0 1 rfl rfl OA.out CQ.out (by omega) BA.out.size ?_; intro v6 w6 o6 grow6 loc6)
        have H6 := hideP (OA.out.boxF (FmOk b) (show 9 ≠ 50 by decide) HA.out grow6)
        have B6 := hideP (grown_below grow6 (fun x e => (OA.out.low x e).1) BA.out.size)
        have O6 := hideP o6
        clear o6 grow6 loc6 hh ho OA CQ
        go_wp2
        go_roundg (36 - (k + 1))
        case rel => exact ⟨k + 1, by omega, by go_num, by rw [S4.out]; go_num, HLE.out ▸ O6.out, H6.out, BA.out.trans B6.out⟩
        case measure => omega
      · have hs' : semi k = false := by simpa using hs
        obtain ⟨s1, s2, s3⟩ := fm_no k hlt hs'
        have S1 := hideP s1
        have S2 := hideP s2
        have hE : ((tokA.getD k (wd [])).toList == [59]) = false := by rw [Lib.toList_data]; exact hs'
        obtain ⟨tk, htk⟩ : ∃ tk, tokA.getD k (wd []) = tk := ⟨_, rfl⟩
        rw [htk] at c0 hE
        subst hl
        clear hs hs' htk s1 s2 s3
        go_wp2
        go_roundg (36 - (k + 1))
        case rel => exact ⟨k + 1, by omega, by go_num, by rw [S2.out], by rw [S1.out]; exact ho.out, hh.out, bw.out⟩
        case measure => omega
    · have hk0 : k = 36 := by omega
      subst hk0
      subst hl
      go_wp2
      go_ret
      exact ⟨b, _, _, rfl, ho.out, HBb.out, hh.out, bw.out⟩
end Go.Proofs.YtheholgdfmipbaaDoor
