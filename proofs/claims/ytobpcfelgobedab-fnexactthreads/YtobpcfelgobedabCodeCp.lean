/- The contracts of strings.Clone and impl.codeCopy. -/
import Derived.Test.YtobpcfelgobedabRowC
import Derived.Test.YtobpcfelgobedabShelf
import Derived.Deep.LoopGhost
import Derived.Deep.CutRange
namespace Go.Proofs.Ytobpcfelgobedab
open Go.ChangeShapes Go.WideShapes Go.ChangeAt Go.RowKit
theorem strClone_any (s : ByteArray) (w : World) (h : s.size ≤ 281474976710656) :
    Calls Try.prog 49 #[.string s] w fun e w' => e = .returned (.string s) ∧ Below w.heap.size w w' := by
  go_enter Try.func49, Try.ntmps49
  go_wp2_with fail
  refine (Try.stringslite_Clone s _ h).mono ?_
  rintro e w' ⟨rfl, bel⟩
  go_wp2
  go_ret
  exact ⟨rfl, bel⟩
def insA (x : Ins) : Array Value := #[.int .i64 x.op, .int .i64 x.d, .int .i64 x.a, .int .i64 x.b, .int .i64 x.c, .int .i64 x.n, .string x.t]
theorem insA_one (x : Ins) : ∀ u ∈ (insA x).toList, u.oneCell' = true := by
  intro u hu
  simp only [insA, List.mem_cons, List.not_mem_nil, or_false] at hu
  rcases hu with rfl | rfl | rfl | rfl | rfl | rfl | rfl <;> rfl
/-- The cells of a slice of steps. -/
theorem ins_row {w : World} {B : Nat} {u : Option Addr} {code : List Ins} (h : SlIs InsIs 7 w B u code) : RowAt w B u code.length 7 (fun i => insA (code[i]!)) := by
  obtain ⟨_, vs, hr, hx⟩ := h
  rcases hr with h0 | ⟨b, o, ha, hB, hb, hp, hc⟩
  · exact Or.inl h0
  · refine Or.inr ⟨b, o, ha, hB, hb, hp, fun i hi => ?_⟩
    have e : vs i = insA code[i] := (hx i hi).1
    simp only [getElem!_pos code i hi, ← e]
    exact hc i hi
theorem RowOf.same {w : World} {B : Nat} {T : TypeId} {sz : Nat} {v : Value} {n : Nat} {vs : Nat → Array Value} {g i r : Nat} {x : Value} {c : Nat} (h : RowOf w B T sz v n vs) (hv : v = .slice (some ⟨g, 0, none⟩) n c) (hi : i < n) (hr : r < sz) (hx : (vs i)[r]? = some x) :
    RowOf (w.setCell ⟨g, i * sz + r, none⟩ x) B T sz v n vs := by
  obtain ⟨a, c', hv', h0 | ⟨g', cur, ha, hB, hh, hs, hc⟩⟩ := h
  · exact ⟨a, c', hv', Or.inl h0⟩
  · rw [hv'] at hv
    injection hv with e1 e2 e3
    rw [ha] at e1
    injection e1 with e1
    injection e1 with e1
    subst e1
    refine ⟨a, c', hv', Or.inr ⟨g', _, ha, hB, heap_setCell_same w g' _ cur _ x hh, by simpa using hs, fun k hk q hq => ?_⟩⟩
    rw [Array.getElem?_setIfInBounds]
    split
    · rename_i e
      have hki : k = i ∧ q = r := by
        have h1 : k * sz + q = i * sz + r := e.symm
        have hd : (k * sz + q) / sz = (i * sz + r) / sz := by rw [h1]
        rw [Nat.mul_comm k, Nat.mul_comm i, Nat.mul_add_div (by omega), Nat.mul_add_div (by omega), Nat.div_eq_of_lt hq, Nat.div_eq_of_lt hr] at hd
        have : k = i := by omega
        subst this
        exact ⟨rfl, by omega⟩
      obtain ⟨rfl, rfl⟩ := hki
      have hlt : k * sz + q < cur.size := by
        have := Nat.mul_le_mul_right sz (show k + 1 ≤ n from hk)
        rw [Nat.succ_mul] at this; omega
      rw [if_pos hlt, hx]
    · exact hc k hk q hq
set_option maxRecDepth 100000 in
set_option maxHeartbeats 4000000 in
theorem codeCopy_any (code : List Ins) (w : World) (B : Nat) (u : Option Addr) (cap : Nat) (h : SlIs InsIs 7 w B u code) (hn : code.length ≤ 1048576) (ht : ∀ x ∈ code, x.t.size ≤ 1048576) :
    Calls Try.prog 35 #[.slice u code.length cap] w fun en w' => ∃ v', en = .returned v' ∧ RowOf w' w.heap.size 62 7 v' code.length (fun i => insA (code[i]!)) ∧ Below w.heap.size w w' := by
  have RW := hideP (ins_row h)
  have HT := hideP ht
  have hm := maxLen_lt
  clear h ht
  go_enter Try.func35, Try.ntmps35
  go_wp2_with fail
  refine (cloneC code.length _ B u cap _ RW.out (fun i hi => insA_one _) (by omega)).mono ?_
  rintro e1 w1 ⟨v1, rfl, o1, bel1⟩
  obtain ⟨a1, c1, rfl, _⟩ := id o1
  have O1 := hideP o1
  have B1 := hideP bel1
  clear o1 bel1
  go_wp2
  go_loopg [10] code.length (fun gk ix wr => ∃ j : Nat, gk + j = code.length ∧ ix = .int .i64 j ∧ Hid (RowOf wr w.heap.size 62 7 (.slice a1 code.length c1) code.length (fun i => insA (code[i]!))) ∧ Hid (Below w.heap.size w wr))
  case atStart => exact ⟨0, rfl, rfl, O1.out, B1.out⟩
  case round =>
    obtain ⟨j, hj, rfl, ho, hb⟩ := hrel
    clear O1 B1
    by_cases hlt : j < code.length
    · obtain ⟨a', c', hv', h0 | ⟨g, cur, ha, hB, hh, hs, hc⟩⟩ := id ho.out
      · omega
      · injection hv' with e1 e2 e3
        subst e1 e3 ha
        have hx := fun r (hr : r < 7) => hc j hlt r hr
        have hg : g < wr.heap.size := (Array.getElem?_eq_some_iff.1 hh).1
        simp only [getElem!_pos code j hlt] at hx
        have hts := HT.out code[j] (List.getElem_mem hlt)
        obtain ⟨⟨op, d, a, b, c, n, t⟩, he⟩ : ∃ x, code[j] = x := ⟨_, rfl⟩
        rw [he] at hx hts
        have HE := hideP he
        clear he
        simp only at hts
        have cl : ∀ r, r < 7 → wr.cell? ⟨g, j * 7 + r, none⟩ = (insA ⟨op, d, a, b, c, n, t⟩)[r]? := fun r hr => by simp only [World.cell?, hh]; exact hx r hr
        have q0 : wr.cell? ⟨g, j * 7, none⟩ = some (.int .i64 op) := cl 0 (by omega)
        have q1 : wr.cell? ⟨g, j * 7 + 1, none⟩ = some (.int .i64 d) := cl 1 (by omega)
        have q2 : wr.cell? ⟨g, j * 7 + 2, none⟩ = some (.int .i64 a) := cl 2 (by omega)
        have q3 : wr.cell? ⟨g, j * 7 + 3, none⟩ = some (.int .i64 b) := cl 3 (by omega)
        have q4 : wr.cell? ⟨g, j * 7 + 4, none⟩ = some (.int .i64 c) := cl 4 (by omega)
        have q5 : wr.cell? ⟨g, j * 7 + 5, none⟩ = some (.int .i64 n) := cl 5 (by omega)
        have q6 : wr.cell? ⟨g, j * 7 + 6, none⟩ = some (.string t) := cl 6 (by omega)
        have al := (Below.refl wr.heap.size wr).alloc (Nat.le_refl _) (.cells #[.int .i64 op, .int .i64 d, .int .i64 a, .int .i64 b, .int .i64 c, .int .i64 n, .string t] 62)
        have OA := hideP (ho.out.stays al)
        have BA := hideP (below_trans hb.out al)
        clear al cl hx hc hs hh
        go_wp2_with fail
        refine (strClone_any t _ (by omega)).mono ?_
        rintro e2 w2 ⟨rfl, bel2⟩
        replace OA := hideP (OA.out.stays bel2)
        replace BA := hideP (below_trans BA.out bel2)
        clear bel2 q0 q1 q2 q3 q4 q5 q6
        have S2 : Hid (RowOf (w2.setCell ⟨g, j * 7 + 6, none⟩ (.string t)) w.heap.size 62 7 (.slice (some ⟨g, 0, none⟩) code.length c1) code.length (fun i => insA (code[i]!))) :=
          OA.out.same rfl hlt (by omega) (by simp only [getElem!_pos code j hlt, HE.out]; rfl)
        have hf : (∃ x, w2.cell? ⟨g, j * 7 + 6, none⟩ = some x) ∧ w2.frozen? ⟨g, j * 7 + 6, none⟩ = false := by
          obtain ⟨a', c', hv', h0 | ⟨g', cur', ha, hB', hh, hs, hc⟩⟩ := OA.out
          · omega
          · injection hv' with e1
            rw [ha] at e1
            injection e1 with e1
            injection e1 with e1
            subst e1
            have := Nat.mul_le_mul_right 7 (show j + 1 ≤ code.length from hlt)
            exact ⟨⟨cur'[j * 7 + 6]'(by omega), by simp [World.cell?, hh, show j * 7 + 6 < cur'.size by omega]⟩, by simp [World.frozen?, hh]⟩
        obtain ⟨⟨x6, hx6⟩, hf6⟩ := hf
        have B2 := hideP (BA.out.setCell (p := ⟨g, j * 7 + 6, none⟩) hB (.string t))
        clear OA BA
        go_wp2
        go_roundg (code.length - (j + 1))
        case rel => exact ⟨j + 1, by omega, by go_num, S2.out, B2.out⟩
        case measure => omega
    · have hjn : j = code.length := by omega
      subst hjn
      go_wp2
      go_ret
      exact ⟨_, rfl, ho.out, hb.out⟩
end Go.Proofs.Ytobpcfelgobedab
