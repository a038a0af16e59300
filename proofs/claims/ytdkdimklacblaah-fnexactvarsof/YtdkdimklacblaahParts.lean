/- The contracts of impl.expParts, impl.stmtParts: a list of its own with a part for each element. -/
import Derived.Test.YtdkdimklacblaahNd
import Derived.Maps.AppendAt
import Derived.WalkSpells
import Derived.WalkLawsBesides
import Derived.OpenShut
namespace Go.Proofs.Ytdkdimklacblaah
open Go.ChangeShapes Go.WideShapes Go.ChangeAt Go.RowKit

def ptsCells : List Pt → List Value
  | [] => []
  | p :: l => p.c0 :: p.c1 :: ptsCells l
theorem ptsCells_append : ∀ l m, ptsCells (l ++ m) = ptsCells l ++ ptsCells m
  | [], m => rfl
  | p :: l, m => by simp [ptsCells, ptsCells_append l m]
theorem ptsCells_len : ∀ l, (ptsCells l).length = l.length * 2
  | [] => rfl
  | p :: l => by simp [ptsCells, ptsCells_len l]; omega
theorem ptsCells_one : ∀ (l : List Pt) (u : Value), u ∈ ptsCells l → u.oneCell' = true
  | [], u, h => by simp [ptsCells] at h
  | p :: l, u, h => by
    simp only [ptsCells, List.mem_cons] at h
    rcases h with rfl | rfl | h
    · cases p <;> rfl
    · cases p <;> rfl
    · exact ptsCells_one l u h
theorem ptsCells_at : ∀ (l : List Pt) (i : Nat) (h : i < l.length), (ptsCells l)[i * 2]? = some l[i].c0 ∧ (ptsCells l)[i * 2 + 1]? = some l[i].c1
  | p :: l, 0, _ => by simp [ptsCells]
  | p :: l, i + 1, h => by
    have := ptsCells_at l i (by simpa using h)
    rw [show (i + 1) * 2 = i * 2 + 1 + 1 by omega]
    simpa [ptsCells] using this
/-- These are the parts in the slice, which lies in a block of its own from B on. -/
def OwnPts (w : World) (B : Nat) (v : Value) (l : List Pt) : Prop := ∃ g cap, v = .slice (some ⟨g, 0, none⟩) l.length cap ∧ w.ownsRow B 70 2 v l.length (ptsCells l)
theorem owns_stays {w w' : World} {base : Nat} {e : TypeId} {size : Nat} {v : Value} {n : Nat} {xs : List Value} (h : w.ownsRow base e size v n xs) (bel : Below w.heap.size w w') : w'.ownsRow base e size v n xs := by
  obtain ⟨hl, h0 | ⟨g, cap, cur, hv, hB, hh, hr⟩⟩ := h
  · exact ⟨hl, Or.inl h0⟩
  · exact ⟨hl, Or.inr ⟨g, cap, cur, hv, hB, (bel.block g (Array.getElem?_eq_some_iff.1 hh).1).trans hh, hr⟩⟩
theorem info70 : (Try.prog.info? 70).map (fun i => (i.zero, i.size, i.bytes)) = some (some (.agg #[.pointer none, .pointer none]), 2, 16) := by kernel_rfl
/-- The parts of a row of n elements of s cells. -/
def rowPts (mk : Nat → Nat → Pt) (s : Nat) (a : Option Addr) (n : Nat) : List Pt := match a with
  | some ad => (List.range n).map fun i => mk ad.block (ad.off + i * s)
  | none => []
theorem rowPts_len (mk : Nat → Nat → Pt) (s b o n : Nat) : (rowPts mk s (some ⟨b, o, none⟩) n).length = n := by simp [rowPts]
theorem row_le (mk : Nat → Nat → Pt) (s : Nat) (a : Option Addr) (n : Nat) : (rowPts mk s a n).length ≤ n := by cases a <;> simp [rowPts]
theorem blk_new' (w : World) (o : Obj) : (w.alloc o).heap[w.heap.size]? = some o := by show (w.heap.push o)[w.heap.size]? = _; exact Array.getElem?_push_size
theorem rowPts_succ (mk : Nat → Nat → Pt) (s b o n : Nat) : rowPts mk s (some ⟨b, o, none⟩) (n + 1) = rowPts mk s (some ⟨b, o, none⟩) n ++ [mk b (o + n * s)] := by
  simp [rowPts, List.range_succ]
theorem own_of {w : World} {B : Nat} {v : Value} {l : List Pt} (h : w.ownsRow B 70 2 v l.length (ptsCells l)) (hne : ¬ v = .slice none 0 0) : OwnPts w B v l := by
  have h' := h
  obtain ⟨_, ⟨h0, _⟩ | ⟨g, cap, _, hv, _⟩⟩ := h'
  · exact absurd h0 hne
  · exact ⟨g, cap, hv, h⟩
theorem two_new (w : World) (p : Pt) (T : TypeId) : ∀ j u, [p.c0, p.c1][j]? = some u → (w.alloc (.cells #[p.c0, p.c1] T)).cell? ((⟨w.heap.size, 0, none⟩ : Addr).add j) = some u := by
  intro j u h
  match j, h with
  | 0, h => simp at h; subst h; simp [Addr.add]
  | 1, h => simp at h; subst h; simp [Addr.add]
set_option maxHeartbeats 1000000 in
theorem expParts_any (w : World) (b o n cap : Nat) (hn : n ≤ 1048576) :
    Calls Try.prog 42 #[.slice (some ⟨b, o, none⟩) n cap] w fun en w' => ∃ v, en = .returned v ∧ OwnPts w' w.heap.size v (rowPts .ex 5 (some ⟨b, o, none⟩) n) ∧ Below w.heap.size w w' := by
  obtain ⟨i0, hi, hz0, hz1, hz2⟩ := info_parts info70
  have IX := hideP hi
  clear hi
  have own0 : (w.alloc (.cells #[] 70)).ownsRow w.heap.size 70 2 (.slice (some ⟨w.heap.size, 0, none⟩) 0 0) 0 [] := by
    have := World.ownsRow_made (base := w.heap.size) (e := 70) (size := 2) w #[] 0 (Nat.le_refl _) (Nat.zero_le _) rfl
    simpa using this
  have OWN0 : Hid (OwnPts (w.alloc (.cells #[] 70)) w.heap.size (.slice (some ⟨w.heap.size, 0, none⟩) 0 0) (rowPts .ex 5 (some ⟨b, o, none⟩) 0)) := ⟨_, _, rfl, own0⟩
  clear own0
  go_enter Try.func42, Try.ntmps42
  go_wp2
  go_loopw [3, 8] (fun v i wr => ∃ j : Nat, j ≤ n ∧ i = .int .i64 j ∧ Hid (OwnPts wr w.heap.size v (rowPts .ex 5 (some ⟨b, o, none⟩) j)) ∧ Hid (Below w.heap.size w wr)) (fun _ i _ => n - (intOf i).toNat)
  case atStart => exact ⟨0, Nat.zero_le _, rfl, OWN0, (Below.refl _ _).alloc (Nat.le_refl _) _⟩
  case round =>
    obtain ⟨j, hj, rfl, hown, hbel⟩ := hrel
    by_cases hlt : j < n
    · obtain ⟨g, c, rfl, hrow⟩ := hown.out
      rw [rowPts_len] at hrow
      have hsz := hbel.out.size
      have HR := hideP hrow
      have hi := IX.out
      rw [rowPts_len]
      clear hrow hown
      go_wp2_with (at_builtin; refine wpList_append_own _ rfl _ _ 57 rfl w.heap.size 70 i0 (.agg #[.pointer none, .pointer none]) 2 16 Try.underlying57 hi hz0 hz1 hz2 rfl (by decide) _ _ _ rfl (HR.out.alloc _) ⟨wr.heap.size, 0, none⟩ 1 1 [(Pt.ex b (o + j * 5)).c0, (Pt.ex b (o + j * 5)).c1] rfl rfl ?c1 ?c2 ?c3 ?c4 ?c5 ?_)
      case c1 => exact two_new wr (Pt.ex b (o + j * 5)) 70
      case c2 => exact ptsCells_one [Pt.ex b (o + j * 5)]
      case c3 => unfold maxLen; omega
      case c4 => omega
      case c5 => simp; omega
      intro v5 w5 hown5 hgrow hnil
      have B5 := hideP ((hbel.out.alloc hsz _).grown hgrow (by simp; omega) (fun b hb => (HR.out.lt b hb).1))
      have OWN5 : Hid (OwnPts w5 w.heap.size v5 (rowPts .ex 5 (some ⟨b, o, none⟩) (j + 1))) := by
        refine own_of ?_ hnil
        rw [rowPts_succ, ptsCells_append, List.length_append, rowPts_len]
        exact hown5
      clear hown5 hgrow hnil hi HR
      go_wp2
      go_roundw
      case rel => exact ⟨j + 1, by omega, by go_num, OWN5, B5⟩
      case measure => simp [intOf]; omega
    · have hjn : j = n := by omega
      subst hjn
      go_wp2
      go_ret
      exact ⟨_, rfl, hown.out, hbel.out⟩
set_option maxHeartbeats 1000000 in
theorem expParts_zero (w : World) (a : Option Addr) (cap : Nat) :
    Calls Try.prog 42 #[.slice a 0 cap] w fun en w' => ∃ v, en = .returned v ∧ OwnPts w' w.heap.size v [] ∧ Below w.heap.size w w' := by
  have own0 : (w.alloc (.cells #[] 70)).ownsRow w.heap.size 70 2 (.slice (some ⟨w.heap.size, 0, none⟩) 0 0) 0 [] := by
    have := World.ownsRow_made (base := w.heap.size) (e := 70) (size := 2) w #[] 0 (Nat.le_refl _) (Nat.zero_le _) rfl
    simpa using this
  have OWN0 : Hid (OwnPts (w.alloc (.cells #[] 70)) w.heap.size (.slice (some ⟨w.heap.size, 0, none⟩) 0 0) []) := ⟨_, _, rfl, own0⟩
  clear own0
  go_enter Try.func42, Try.ntmps42
  go_wp2
  go_loopw [3, 8] (fun v i wr => i = .int .i64 0 ∧ Hid (OwnPts wr w.heap.size v []) ∧ Hid (Below w.heap.size w wr)) (fun _ _ _ => 0)
  case atStart => exact ⟨rfl, OWN0, (Below.refl _ _).alloc (Nat.le_refl _) _⟩
  case round =>
    obtain ⟨rfl, hown, hbel⟩ := hrel
    go_wp2
    go_ret
    exact ⟨_, rfl, hown.out, hbel.out⟩
theorem expParts_row (w : World) (a : Option Addr) (n cap : Nat) (hn : n ≤ 1048576) (ha : n = 0 ∨ ∃ b o, a = some ⟨b, o, none⟩) :
    Calls Try.prog 42 #[.slice a n cap] w fun en w' => ∃ v, en = .returned v ∧ OwnPts w' w.heap.size v (rowPts .ex 5 a n) ∧ Below w.heap.size w w' := by
  rcases ha with rfl | ⟨b, o, rfl⟩
  · have : rowPts .ex 5 a 0 = [] := by cases a <;> simp [rowPts]
    rw [this]; exact expParts_zero w a cap
  · exact expParts_any w b o n cap hn
set_option maxHeartbeats 1000000 in
theorem stmtParts_any (w : World) (b o n cap : Nat) (hn : n ≤ 1048576) :
    Calls Try.prog 36 #[.slice (some ⟨b, o, none⟩) n cap] w fun en w' => ∃ v, en = .returned v ∧ OwnPts w' w.heap.size v (rowPts .st 6 (some ⟨b, o, none⟩) n) ∧ Below w.heap.size w w' := by
  obtain ⟨i0, hi, hz0, hz1, hz2⟩ := info_parts info70
  have IX := hideP hi
  clear hi
  have own0 : (w.alloc (.cells #[] 70)).ownsRow w.heap.size 70 2 (.slice (some ⟨w.heap.size, 0, none⟩) 0 0) 0 [] := by
    have := World.ownsRow_made (base := w.heap.size) (e := 70) (size := 2) w #[] 0 (Nat.le_refl _) (Nat.zero_le _) rfl
    simpa using this
  have OWN0 : Hid (OwnPts (w.alloc (.cells #[] 70)) w.heap.size (.slice (some ⟨w.heap.size, 0, none⟩) 0 0) (rowPts .st 6 (some ⟨b, o, none⟩) 0)) := ⟨_, _, rfl, own0⟩
  clear own0
  go_enter Try.func36, Try.ntmps36
  go_wp2
  go_loopw [3, 8] (fun v i wr => ∃ j : Nat, j ≤ n ∧ i = .int .i64 j ∧ Hid (OwnPts wr w.heap.size v (rowPts .st 6 (some ⟨b, o, none⟩) j)) ∧ Hid (Below w.heap.size w wr)) (fun _ i _ => n - (intOf i).toNat)
  case atStart => exact ⟨0, Nat.zero_le _, rfl, OWN0, (Below.refl _ _).alloc (Nat.le_refl _) _⟩
  case round =>
    obtain ⟨j, hj, rfl, hown, hbel⟩ := hrel
    by_cases hlt : j < n
    · obtain ⟨g, c, rfl, hrow⟩ := hown.out
      rw [rowPts_len] at hrow
      have hsz := hbel.out.size
      have HR := hideP hrow
      have hi := IX.out
      rw [rowPts_len]
      clear hrow hown
      go_wp2_with (at_builtin; refine wpList_append_own _ rfl _ _ 57 rfl w.heap.size 70 i0 (.agg #[.pointer none, .pointer none]) 2 16 Try.underlying57 hi hz0 hz1 hz2 rfl (by decide) _ _ _ rfl (HR.out.alloc _) ⟨wr.heap.size, 0, none⟩ 1 1 [(Pt.st b (o + j * 6)).c0, (Pt.st b (o + j * 6)).c1] rfl rfl ?c1 ?c2 ?c3 ?c4 ?c5 ?_)
      case c1 => exact two_new wr (Pt.st b (o + j * 6)) 70
      case c2 => exact ptsCells_one [Pt.st b (o + j * 6)]
      case c3 => unfold maxLen; omega
      case c4 => omega
      case c5 => simp; omega
      intro v5 w5 hown5 hgrow hnil
      have B5 := hideP ((hbel.out.alloc hsz _).grown hgrow (by simp; omega) (fun b hb => (HR.out.lt b hb).1))
      have OWN5 : Hid (OwnPts w5 w.heap.size v5 (rowPts .st 6 (some ⟨b, o, none⟩) (j + 1))) := by
        refine own_of ?_ hnil
        rw [rowPts_succ, ptsCells_append, List.length_append, rowPts_len]
        exact hown5
      clear hown5 hgrow hnil hi HR
      go_wp2
      go_roundw
      case rel => exact ⟨j + 1, by omega, by go_num, OWN5, B5⟩
      case measure => simp [intOf]; omega
    · have hjn : j = n := by omega
      subst hjn
      go_wp2
      go_ret
      exact ⟨_, rfl, hown.out, hbel.out⟩
set_option maxHeartbeats 1000000 in
theorem stmtParts_zero (w : World) (a : Option Addr) (cap : Nat) :
    Calls Try.prog 36 #[.slice a 0 cap] w fun en w' => ∃ v, en = .returned v ∧ OwnPts w' w.heap.size v [] ∧ Below w.heap.size w w' := by
  have own0 : (w.alloc (.cells #[] 70)).ownsRow w.heap.size 70 2 (.slice (some ⟨w.heap.size, 0, none⟩) 0 0) 0 [] := by
    have := World.ownsRow_made (base := w.heap.size) (e := 70) (size := 2) w #[] 0 (Nat.le_refl _) (Nat.zero_le _) rfl
    simpa using this
  have OWN0 : Hid (OwnPts (w.alloc (.cells #[] 70)) w.heap.size (.slice (some ⟨w.heap.size, 0, none⟩) 0 0) []) := ⟨_, _, rfl, own0⟩
  clear own0
  go_enter Try.func36, Try.ntmps36
  go_wp2
  go_loopw [3, 8] (fun v i wr => i = .int .i64 0 ∧ Hid (OwnPts wr w.heap.size v []) ∧ Hid (Below w.heap.size w wr)) (fun _ _ _ => 0)
  case atStart => exact ⟨rfl, OWN0, (Below.refl _ _).alloc (Nat.le_refl _) _⟩
  case round =>
    obtain ⟨rfl, hown, hbel⟩ := hrel
    go_wp2
    go_ret
    exact ⟨_, rfl, hown.out, hbel.out⟩
theorem stmtParts_row (w : World) (a : Option Addr) (n cap : Nat) (hn : n ≤ 1048576) (ha : n = 0 ∨ ∃ b o, a = some ⟨b, o, none⟩) :
    Calls Try.prog 36 #[.slice a n cap] w fun en w' => ∃ v, en = .returned v ∧ OwnPts w' w.heap.size v (rowPts .st 6 a n) ∧ Below w.heap.size w w' := by
  rcases ha with rfl | ⟨b, o, rfl⟩
  · have : rowPts .st 6 a 0 = [] := by cases a <;> simp [rowPts]
    rw [this]; exact stmtParts_zero w a cap
  · exact stmtParts_any w b o n cap hn
end Go.Proofs.Ytdkdimklacblaah
