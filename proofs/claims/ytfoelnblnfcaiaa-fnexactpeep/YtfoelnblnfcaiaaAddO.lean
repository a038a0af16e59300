/- The contract of spec.l02Add. -/
import Derived.Test.YtfoelnblnfcaiaaAddC
namespace Go.Proofs.Ytfoelnblnfcaiaa
open Go.ChangeShapes Go.WideShapes Go.ChangeAt Go.RowKit
theorem ne_b (k m c m' c' : Nat) : (Value.slice (some ⟨k + 1, 0, none⟩) m c).ownBlock ≠ (Value.slice (some ⟨k, 0, none⟩) m' c').ownBlock := by
  intro h
  have h' : some (k + 1) = some k := h
  simp at h'
theorem belA (w : World) (o : Obj) : Below w.heap.size w (w.alloc o).drew := ((Below.refl _ _).alloc (Nat.le_refl _) _).drew
theorem belAB (w : World) (o o' : Obj) : Below w.heap.size w ((w.alloc o).alloc o').drew := (((Below.refl w.heap.size w).alloc (Nat.le_refl _) o).alloc (by simp) o').drew
theorem take_at {X : World} {b o j : Nat} {xs : List Int} (h : ∀ i (hi : i < xs.length), X.cell? ⟨b, o + i, none⟩ = some (.int .i64 xs[i])) : ∀ i (hi : i < (xs.take j).length), X.cell? ⟨b, o + i, none⟩ = some (.int .i64 (xs.take j)[i]) := by
  intro i hi
  rw [List.getElem_take]
  exact h i (by rw [List.length_take] at hi; omega)
theorem drop_at {X : World} {b o j : Nat} {xs : List Int} (h : ∀ i (hi : i < xs.length), X.cell? ⟨b, o + i, none⟩ = some (.int .i64 xs[i])) : ∀ i (hi : i < (xs.drop j).length), X.cell? ⟨b, o + j + i, none⟩ = some (.int .i64 (xs.drop j)[i]) := by
  intro i hi
  rw [List.getElem_drop, Nat.add_assoc]
  exact h (j + i) (by rw [List.length_drop] at hi; omega)
set_option maxRecDepth 100000 in
set_option maxHeartbeats 8000000 in
theorem l02Add_own0 (xs : List Int) (n : Int) (w : World) (B b o cap : Nat) (hx : IntsGet w (some ⟨b, o, none⟩) xs) (hcap : xs.length ≤ cap) (hn : xs.length ≤ 4000000) (hB : B ≤ w.heap.size) (hO : OwnI w B (.slice (some ⟨b, o, none⟩) xs.length cap) xs) :
    Calls Try.prog 45 #[.slice (some ⟨b, o, none⟩) xs.length cap, .int .i64 n] w fun e w' => ∃ v', e = .returned v' ∧ OwnI w' B v' (addTo xs n) ∧ Below w.heap.size w w' := by
  obtain ⟨R, hR⟩ : ∃ R, addTo xs n = R := ⟨_, rfl⟩
  rw [hR]
  have HR := hideP hR
  have HX := hideP hx
  have HO := hideP hO
  clear hx hR hO
  go_enter Try.func45, Try.ntmps45
  go_wp2
  go_loopw [5] (fun i wr => ∃ j : Nat, j ≤ xs.length ∧ i = .int .i64 j ∧ wr = w ∧ Hid (∀ k (hk : k < xs.length), k < j → xs[k] < n)) (fun i _ => xs.length - (intOf i).toNat)
  case atStart => exact ⟨0, Nat.zero_le _, rfl, rfl, fun _ _ h => absurd h (Nat.not_lt_zero _)⟩
  case round =>
    obtain ⟨j, hj, rfl, rfl, hs⟩ := hrel
    by_cases hlt : j < xs.length
    · obtain ⟨b', o', he, hc⟩ := HX.out.get j hlt
      cases he
      obtain ⟨x, hxj⟩ : ∃ x, xs[j] = x := ⟨_, rfl⟩
      rw [hxj] at hc
      have HXJ := hideP hxj
      clear hxj
      by_cases h1 : x < n
      · go_wp2
        go_roundw
        case rel =>
          refine ⟨j + 1, by omega, by go_num, trivial, fun k hk hkj => ?_⟩
          by_cases e : k = j
          · subst e; rw [HXJ.out]; exact h1
          · exact hs.out k hk (by omega)
        case measure => simp [intOf]; omega
      · by_cases h2 : x = n
        · have e := hideP (HR.out.symm.trans (addTo_there n xs j hlt hs.out (HXJ.out.trans h2)))
          go_wp2
          go_ret
          exact ⟨_, rfl, by rw [e.out]; exact HO.out, Below.refl _ _⟩
        · have e := hideP (HR.out.symm.trans (addTo_here n xs j hj hs.out (fun _ => by rw [HXJ.out]; omega)))
          have hcj : ¬ cap = j := by omega
          have i0 : (0 : Int) ≤ (j : Int) := by omega
          have i1 : (j : Int) ≤ (cap : Int) := by omega
          have i2 : (j : Int) ≤ (xs.length : Int) := by omega
          have i3 : (xs.length : Int) ≤ (cap : Int) := by omega
          go_wp2
          go_region_held3 (fun _ => True) (trivial) (first
            | (refine step_appI _ rfl _ _ rfl wr.heap.size _ [] (xs.take j) b o j _ (by rw [List.length_take]; omega) rfl rfl (own0a wr) (take_at (get_at HX.out (belA wr _))) (by rw [List.length_take]; simp; omega) (belA wr _).size ?_; intro v1 w1 o1 grow1 loc1; have HB1 : Hid (Below wr.heap.size wr w1) := (belA wr _).grown grow1 (belA wr _).size (low1 (own0a wr)))
            | (refine step_appI _ rfl _ _ rfl wr.heap.size _ [] (xs.take j) b o j _ (by rw [List.length_take]; omega) rfl rfl (own0b wr n) (take_at (get_at HX.out (belAB wr _ _))) (by rw [List.length_take]; simp; omega) (belAB wr _ _).size ?_; intro v1 w1 o1 grow1 loc1; have HB1 : Hid (Below wr.heap.size wr w1) := (belAB wr _ _).grown grow1 (belAB wr _ _).size (low1 (own0b wr n)); have N1 := hideP ((own1b wr n).kept grow1 (ne_b _ _ _ _ _)))
            | (refine step_appI _ rfl _ _ rfl wr.heap.size _ [] (xs.take j) b o j _ (by rw [List.length_take]; omega) rfl rfl (own0c wr n) (take_at (get_at HX.out (belAB wr _ _))) (by rw [List.length_take]; simp; omega) (belAB wr _ _).size ?_; intro v1 w1 o1 grow1 loc1; have HB1 : Hid (Below wr.heap.size wr w1) := (belAB wr _ _).grown grow1 (belAB wr _ _).size (low1 (own0c wr n)); have N1 := hideP ((own1c wr n).kept grow1 (Ne.symm (ne_b _ _ _ _ _))))
            | (refine step_appI _ rfl _ _ rfl wr.heap.size _ ([] ++ xs.take j) [n] _ 0 1 1 rfl rfl rfl o1 (N1.out).at (by rw [List.length_append, List.length_take]; simp; omega) HB1.out.size ?_; intro v2 w2 o2 grow2 loc2; have HB2 : Hid (Below wr.heap.size wr w2) := HB1.out.grown grow2 HB1.out.size (low1 o1))
            | (refine step_appI _ rfl _ _ rfl wr.heap.size _ ([] ++ xs.take j) [n] _ 0 1 1 rfl rfl rfl (o1.stays ((Below.refl _ _).alloc (Nat.le_refl _) _)) (own1 w1 n).at (by rw [List.length_append, List.length_take]; simp; omega) (HB1.out.alloc HB1.out.size _).size ?_; intro v2 w2 o2 grow2 loc2; have HB2 : Hid (Below wr.heap.size wr w2) := (HB1.out.alloc HB1.out.size _).grown grow2 (HB1.out.alloc HB1.out.size _).size (low1 o1))
            | (refine step_appI _ rfl _ _ rfl wr.heap.size _ ([] ++ xs.take j ++ [n]) (xs.drop j) b (o + j) (xs.length - j) _ (by rw [List.length_drop]) rfl rfl o2 (drop_at (get_at HX.out HB2.out)) (by rw [List.length_append, List.length_append, List.length_take, List.length_drop]; simp; omega) HB2.out.size ?_; intro v3 w3 o3 grow3 loc3; have HB3 : Hid (Below wr.heap.size wr w3) := HB2.out.grown grow3 HB2.out.size (low1 o2)))
          all_goals (obtain ⟨g3, cap3, rfl, _⟩ := id o3; have HI3 := hideP (o3.mono hB); go_wp2; go_ret; rw [show [] ++ List.take j xs ++ [n] ++ List.drop j xs = R by rw [e.out]; simp] at *; exact ⟨_, rfl, HI3.out, HB3.out⟩)
    · have e := hideP (HR.out.symm.trans (addTo_here n xs j hj hs.out (fun h => absurd h hlt)))
      by_cases hcj : cap = j
      · have i0 : (0 : Int) ≤ (j : Int) := by omega
        have i1 : (j : Int) ≤ (cap : Int) := by omega
        have i2 : (j : Int) ≤ (xs.length : Int) := by omega
        have i3 : (xs.length : Int) ≤ (cap : Int) := by omega
        go_wp2
        go_region_held3 (fun _ => True) (trivial) (first
          | (refine step_appI _ rfl _ _ rfl wr.heap.size _ [] (xs.take j) b o j _ (by rw [List.length_take]; omega) rfl rfl (own0a wr) (take_at (get_at HX.out (belA wr _))) (by rw [List.length_take]; simp; omega) (belA wr _).size ?_; intro v1 w1 o1 grow1 loc1; have HB1 : Hid (Below wr.heap.size wr w1) := (belA wr _).grown grow1 (belA wr _).size (low1 (own0a wr)))
          | (refine step_appI _ rfl _ _ rfl wr.heap.size _ [] (xs.take j) b o j _ (by rw [List.length_take]; omega) rfl rfl (own0b wr n) (take_at (get_at HX.out (belAB wr _ _))) (by rw [List.length_take]; simp; omega) (belAB wr _ _).size ?_; intro v1 w1 o1 grow1 loc1; have HB1 : Hid (Below wr.heap.size wr w1) := (belAB wr _ _).grown grow1 (belAB wr _ _).size (low1 (own0b wr n)); have N1 := hideP ((own1b wr n).kept grow1 (ne_b _ _ _ _ _)))
          | (refine step_appI _ rfl _ _ rfl wr.heap.size _ [] (xs.take j) b o j _ (by rw [List.length_take]; omega) rfl rfl (own0c wr n) (take_at (get_at HX.out (belAB wr _ _))) (by rw [List.length_take]; simp; omega) (belAB wr _ _).size ?_; intro v1 w1 o1 grow1 loc1; have HB1 : Hid (Below wr.heap.size wr w1) := (belAB wr _ _).grown grow1 (belAB wr _ _).size (low1 (own0c wr n)); have N1 := hideP ((own1c wr n).kept grow1 (Ne.symm (ne_b _ _ _ _ _))))
          | (refine step_appI _ rfl _ _ rfl wr.heap.size _ ([] ++ xs.take j) [n] _ 0 1 1 rfl rfl rfl o1 (N1.out).at (by rw [List.length_append, List.length_take]; simp; omega) HB1.out.size ?_; intro v2 w2 o2 grow2 loc2; have HB2 : Hid (Below wr.heap.size wr w2) := HB1.out.grown grow2 HB1.out.size (low1 o1))
          | (refine step_appI _ rfl _ _ rfl wr.heap.size _ ([] ++ xs.take j) [n] _ 0 1 1 rfl rfl rfl (o1.stays ((Below.refl _ _).alloc (Nat.le_refl _) _)) (own1 w1 n).at (by rw [List.length_append, List.length_take]; simp; omega) (HB1.out.alloc HB1.out.size _).size ?_; intro v2 w2 o2 grow2 loc2; have HB2 : Hid (Below wr.heap.size wr w2) := (HB1.out.alloc HB1.out.size _).grown grow2 (HB1.out.alloc HB1.out.size _).size (low1 o1))
          | (refine step_appI _ rfl _ _ rfl wr.heap.size _ ([] ++ xs.take j ++ [n]) (xs.drop j) b o (xs.length - j) _ (by rw [List.length_drop]) rfl rfl o2 (fun i hi => absurd hi (by rw [List.length_drop]; omega)) (by rw [List.length_append, List.length_append, List.length_take, List.length_drop]; simp; omega) HB2.out.size ?_; intro v3 w3 o3 grow3 loc3; have HB3 : Hid (Below wr.heap.size wr w3) := HB2.out.grown grow3 HB2.out.size (low1 o2)))
        all_goals (obtain ⟨g3, cap3, rfl, _⟩ := id o3; have HI3 := hideP (o3.mono hB); go_wp2; go_ret; rw [show [] ++ List.take j xs ++ [n] ++ List.drop j xs = R by rw [e.out]; simp] at *; exact ⟨_, rfl, HI3.out, HB3.out⟩)
      · have i0 : (0 : Int) ≤ (j : Int) := by omega
        have i1 : (j : Int) ≤ (cap : Int) := by omega
        have i2 : (j : Int) ≤ (xs.length : Int) := by omega
        have i3 : (xs.length : Int) ≤ (cap : Int) := by omega
        go_wp2
        go_region_held3 (fun _ => True) (trivial) (first
          | (refine step_appI _ rfl _ _ rfl wr.heap.size _ [] (xs.take j) b o j _ (by rw [List.length_take]; omega) rfl rfl (own0a wr) (take_at (get_at HX.out (belA wr _))) (by rw [List.length_take]; simp; omega) (belA wr _).size ?_; intro v1 w1 o1 grow1 loc1; have HB1 : Hid (Below wr.heap.size wr w1) := (belA wr _).grown grow1 (belA wr _).size (low1 (own0a wr)))
          | (refine step_appI _ rfl _ _ rfl wr.heap.size _ [] (xs.take j) b o j _ (by rw [List.length_take]; omega) rfl rfl (own0b wr n) (take_at (get_at HX.out (belAB wr _ _))) (by rw [List.length_take]; simp; omega) (belAB wr _ _).size ?_; intro v1 w1 o1 grow1 loc1; have HB1 : Hid (Below wr.heap.size wr w1) := (belAB wr _ _).grown grow1 (belAB wr _ _).size (low1 (own0b wr n)); have N1 := hideP ((own1b wr n).kept grow1 (ne_b _ _ _ _ _)))
          | (refine step_appI _ rfl _ _ rfl wr.heap.size _ [] (xs.take j) b o j _ (by rw [List.length_take]; omega) rfl rfl (own0c wr n) (take_at (get_at HX.out (belAB wr _ _))) (by rw [List.length_take]; simp; omega) (belAB wr _ _).size ?_; intro v1 w1 o1 grow1 loc1; have HB1 : Hid (Below wr.heap.size wr w1) := (belAB wr _ _).grown grow1 (belAB wr _ _).size (low1 (own0c wr n)); have N1 := hideP ((own1c wr n).kept grow1 (Ne.symm (ne_b _ _ _ _ _))))
          | (refine step_appI _ rfl _ _ rfl wr.heap.size _ ([] ++ xs.take j) [n] _ 0 1 1 rfl rfl rfl o1 (N1.out).at (by rw [List.length_append, List.length_take]; simp; omega) HB1.out.size ?_; intro v2 w2 o2 grow2 loc2; have HB2 : Hid (Below wr.heap.size wr w2) := HB1.out.grown grow2 HB1.out.size (low1 o1))
          | (refine step_appI _ rfl _ _ rfl wr.heap.size _ ([] ++ xs.take j) [n] _ 0 1 1 rfl rfl rfl (o1.stays ((Below.refl _ _).alloc (Nat.le_refl _) _)) (own1 w1 n).at (by rw [List.length_append, List.length_take]; simp; omega) (HB1.out.alloc HB1.out.size _).size ?_; intro v2 w2 o2 grow2 loc2; have HB2 : Hid (Below wr.heap.size wr w2) := (HB1.out.alloc HB1.out.size _).grown grow2 (HB1.out.alloc HB1.out.size _).size (low1 o1))
          | (refine step_appI _ rfl _ _ rfl wr.heap.size _ ([] ++ xs.take j ++ [n]) (xs.drop j) b (o + j) (xs.length - j) _ (by rw [List.length_drop]) rfl rfl o2 (drop_at (get_at HX.out HB2.out)) (by rw [List.length_append, List.length_append, List.length_take, List.length_drop]; simp; omega) HB2.out.size ?_; intro v3 w3 o3 grow3 loc3; have HB3 : Hid (Below wr.heap.size wr w3) := HB2.out.grown grow3 HB2.out.size (low1 o2)))
        all_goals (obtain ⟨g3, cap3, rfl, _⟩ := id o3; have HI3 := hideP (o3.mono hB); go_wp2; go_ret; rw [show [] ++ List.take j xs ++ [n] ++ List.drop j xs = R by rw [e.out]; simp] at *; exact ⟨_, rfl, HI3.out, HB3.out⟩)
theorem l02Add_own (xs : List Int) (n : Int) (w : World) (B : Nat) (v : Value) (h : OwnI w B v xs) (hn : xs.length ≤ 4000000) (hB : B ≤ w.heap.size) :
    Calls Try.prog 45 #[v, .int .i64 n] w fun e w' => ∃ v', e = .returned v' ∧ OwnI w' B v' (addTo xs n) ∧ Below w.heap.size w w' := by
  have h' := h
  obtain ⟨g, cap, cur, rfl, _, _, hc, _⟩ := h'.parts
  exact l02Add_own0 xs n w B g 0 cap h.is.2.sees hc hn hB h
end Go.Proofs.Ytfoelnblnfcaiaa
