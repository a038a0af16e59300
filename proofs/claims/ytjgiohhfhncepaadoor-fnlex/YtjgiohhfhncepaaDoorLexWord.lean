/- The contract of the program's firstWord: the word that a text begins with. -/
import Derived.Test.YtjgiohhfhncepaaDoorLexSign
namespace Go.Proofs.YtjgiohhfhncepaaDoor
open Go.ChangeShapes Go.WideShapes Go.ChangeAt Go.RowKit

theorem extract_zero (s : ByteArray) (k : Nat) : (s.extract 0 k).data.toList = s.data.toList.take k := by rw [Lib.extract_data]; simp
theorem hasB_two (x : ByteArray) (a b : UInt8) (hx : x.data.toList = [a, b]) : hasB signsA x = ([a, b] == [61, 61]) := by
  unfold signsA theSigns
  simp only [hasB_cons, hasB_nil, Lib.toList_data, hx]
  simp
theorem hasB_oneA (c : UInt8) : hasB signsA (wd [c]) = signL c := by
  unfold signsA
  rw [hasB_cons, hasB_signs, wd_toList]
  simp
theorem signF_two (s : ByteArray) (h : s.data.toList.take 2 = [61, 61]) : signF s 0 = wd [61, 61] := by
  have hl := congrArg List.length h
  rw [List.length_take, dlen] at hl
  simp at hl
  have hx : (s.extract 0 2).data.toList = [61, 61] := by rw [extract_zero]; exact h
  rw [signF_0, if_pos ⟨by omega, by rw [hasB_two _ 61 61 hx]; rfl⟩]
  exact ByteArray.ext (Array.ext' hx)
theorem signF_one (s : ByteArray) (h0 : 0 < s.size) (h : s.data.toList.take 2 ≠ [61, 61]) : signF s 0 = if signL s[0] = true then wd [s[0]] else ⟨#[]⟩ := by
  have e1 : signF s 0 = signF s 1 := by
    by_cases h2 : 2 ≤ s.size
    · have hx : (s.extract 0 2).data.toList = [s[0], s[1]] := by
        rw [extract_zero]
        have d0 := drop_cons s 0 h0
        have d1 := drop_cons s 1 (by omega)
        rw [List.drop_zero] at d0
        rw [d0, d1]; rfl
      rw [extract_zero] at hx
      refine signF_miss0 s rfl ?_
      rw [hasB_two _ s[0] s[1] (by rw [extract_zero]; exact hx), ← hx]
      exact beq_eq_false_iff_ne.2 h
    · exact signF_short s (by omega)
  rw [e1, signF_1, extract_one s 0 h0, hasB_oneA]
  rfl

set_option maxHeartbeats 1000000 in
theorem firstWord_any (s : ByteArray) (w : World) (fr1 fr2 : Nat × Nat) (t1 t2 : TypeId) (hs : s.size ≤ 3000) (h0 : 0 < s.size) (hg0 : w.heap[0]? = some (.cells lensV t1 fr1)) (hg1 : w.heap[1]? = some (.cells signsV t2 fr2)) :
    Calls Tryd.prog 30 #[.string s] w fun e w' => FirstIs (nextL s.data.toList) e ∧ Below w.heap.size w w' := by
  have hh := head_data s h0
  by_cases hL : letB s[0].toNat = true
  · have HN0 : Hid (nextL s.data.toList = nameTok s.data.toList) := by show _ = _; unfold nextL; rw [hh, if_pos hL]
    clear hg0 hg1 hh
    go_enter Tryd.func30, Tryd.ntmps30
    go_wp2_with (go_at_call 37; refine (isLetter_any _ _).mono ?_; rintro e w' ⟨rfl, rfl⟩)
    refine (firstName_any s _ hs).mono ?_
    rintro e w1 ⟨hfi, bel⟩
    obtain ⟨hc, hf⟩ := bcell bel
    have hz : w.heap.size < w1.heap.size := hlt_of bel
    have BEL := hideP (below_new bel)
    clear bel
    cases hn : nameTok s.data.toList with
    | none =>
      rw [hn] at hfi
      obtain ⟨a, c, d, b, rfl⟩ := hfi
      have HN := hideP hn
      clear hn
      go_wp2
      exact bodyPost_ret (v := .tuple #[.agg #[.int .i64 a, .string b, .int .i64 c, .int .i64 d], .int .i64 0]) (by simp [results, Tryd.results30, go_sem, hc]) rfl ⟨firstIs_none a c d b (HN0.out.trans HN.out) rfl, below_set4 BEL.out _ _ _ _⟩
    | some tk =>
      rw [hn] at hfi
      have he : e = .returned (.tuple #[.agg #[.int .i64 tk.k, .string ⟨tk.t.toArray⟩, .int .i64 tk.n, .int .i64 (0 : Nat)], .int .i64 tk.len]) := hfi
      subst he
      clear hfi
      have HN := hideP hn
      clear hn
      go_wp2
      exact bodyPost_ret (v := .tuple #[.agg #[.int .i64 tk.k, .string ⟨tk.t.toArray⟩, .int .i64 tk.n, .int .i64 0], .int .i64 tk.len]) (by simp [results, Tryd.results30, go_sem, hc]) rfl ⟨firstIs_some (HN0.out.trans HN.out) rfl, below_set4 BEL.out _ _ _ _⟩
  · have hL' : letB s[0].toNat = false := by simpa using hL
    by_cases hD : digB s[0].toNat = true
    · have HN0 : Hid (nextL s.data.toList = numTok s.data.toList) := by show _ = _; unfold nextL; rw [hh, if_neg hL, if_pos hD]
      clear hg0 hg1 hh hL
      go_enter Tryd.func30, Tryd.ntmps30
      go_wp2_with (first | (go_at_call 37; refine (isLetter_any _ _).mono ?_; rintro e w' ⟨rfl, rfl⟩) | (go_at_call 47; refine (isDigit_any _ _).mono ?_; rintro e w' ⟨rfl, rfl⟩))
      refine (firstNumber_any s _ hs).mono ?_
      rintro e w1 ⟨hfi, bel⟩
      obtain ⟨hc, hf⟩ := bcell bel
      have hz : w.heap.size < w1.heap.size := hlt_of bel
      have BEL := hideP (below_new bel)
      clear bel
      cases hn : numTok s.data.toList with
      | none =>
        rw [hn] at hfi
        obtain ⟨a, c, d, b, rfl⟩ := hfi
        have HN := hideP hn
        clear hn
        go_wp2
        exact bodyPost_ret (v := .tuple #[.agg #[.int .i64 a, .string b, .int .i64 c, .int .i64 d], .int .i64 0]) (by simp [results, Tryd.results30, go_sem, hc]) rfl ⟨firstIs_none a c d b (HN0.out.trans HN.out) rfl, below_set4 BEL.out _ _ _ _⟩
      | some tk =>
        rw [hn] at hfi
        have he : e = .returned (.tuple #[.agg #[.int .i64 tk.k, .string ⟨tk.t.toArray⟩, .int .i64 tk.n, .int .i64 (0 : Nat)], .int .i64 tk.len]) := hfi
        subst he
        clear hfi
        have HN := hideP hn
        clear hn
        go_wp2
        exact bodyPost_ret (v := .tuple #[.agg #[.int .i64 tk.k, .string ⟨tk.t.toArray⟩, .int .i64 tk.n, .int .i64 0], .int .i64 tk.len]) (by simp [results, Tryd.results30, go_sem, hc]) rfl ⟨firstIs_some (HN0.out.trans HN.out) rfl, below_set4 BEL.out _ _ _ _⟩
    · have hD' : digB s[0].toNat = false := by simpa using hD
      have HN0 : Hid (nextL s.data.toList = signTok s.data.toList) := by show _ = _; unfold nextL; rw [hh, if_neg hL, if_neg hD]
      have hb0 : 0 < w.heap.size := (Array.getElem?_eq_some_iff.1 hg0).1
      have hb1 : 1 < w.heap.size := (Array.getElem?_eq_some_iff.1 hg1).1
      have HG0 := hideP hg0
      have HG1 := hideP hg1
      have HH := hideP hh
      clear hg0 hg1 hh hL hD
      have hsz : ∀ l : List UInt8, (wd l).size = l.length := fun l => rfl
      go_enter Tryd.func30, Tryd.ntmps30
      go_wp2_with (first | (go_at_call 37; refine (isLetter_any _ _).mono ?_; rintro e w' ⟨rfl, rfl⟩) | (go_at_call 47; refine (isDigit_any _ _).mono ?_; rintro e w' ⟨rfl, rfl⟩))
      refine (firstSign_any s _ fr1 fr2 t1 t2 hs h0 (by rw [Below.heap_alloc _ _ _ hb0]; exact HG0.out) (by rw [Below.heap_alloc _ _ _ hb1]; exact HG1.out)).mono ?_
      rintro e w1 ⟨rfl, rfl⟩
      by_cases h2 : s.data.toList.take 2 = [61, 61]
      · rw [signF_two s h2]
        have HS := hideP (HN0.out.trans (sign_two h2))
        clear h2
        go_wp2
        exact bodyPost_ret (v := .tuple #[.agg #[.int .i64 2, .string (wd [61, 61]), .int .i64 0, .int .i64 0], .int .i64 2]) (by simp [results, Tryd.results30, go_sem]) rfl ⟨firstIs_some HS.out rfl, (Below.refl _ _).alloc (Nat.le_refl _) _⟩
      · rw [signF_one s h0 h2]
        by_cases hg : signL s[0] = true
        · rw [if_pos hg]
          have HS := hideP (HN0.out.trans (sign_one h2 HH.out hg))
          clear h2
          go_wp2
          exact bodyPost_ret (v := .tuple #[.agg #[.int .i64 2, .string (wd [s[0]]), .int .i64 0, .int .i64 0], .int .i64 1]) (by simp [results, Tryd.results30, go_sem]) rfl ⟨firstIs_some HS.out rfl, (Below.refl _ _).alloc (Nat.le_refl _) _⟩
        · rw [if_neg hg]
          have HS := hideP (HN0.out.trans (sign_none h2 HH.out (by simpa using hg)))
          clear h2 hg
          go_wp2
          exact bodyPost_ret (v := .tuple #[.agg #[.int .i64 2, .string ⟨#[]⟩, .int .i64 0, .int .i64 0], .int .i64 0]) (by simp [results, Tryd.results30, go_sem]) rfl ⟨firstIs_none 2 0 0 ⟨#[]⟩ HS.out rfl, (Below.refl _ _).alloc (Nat.le_refl _) _⟩
end Go.Proofs.YtjgiohhfhncepaaDoor
