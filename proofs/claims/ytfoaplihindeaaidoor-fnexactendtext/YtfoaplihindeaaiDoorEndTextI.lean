/- The contract of the program's EndText. -/
import Derived.Test.YtfoaplihindeaaiDoorEndTextS
import Derived.Test.YtfoaplihindeaaiDoorImplDec
import Derived.Test.YtfoaplihindeaaiDoorShelf
namespace Go.Proofs.YtfoaplihindeaaiDoor
open Go.ChangeShapes Go.WideShapes Go.ChangeAt Go.RowKit

theorem owns_below {w w' : World} {base : Nat} {e : TypeId} {size : Nat} {v : Value} {n : Nat} {xs : List Value} (h : w.ownsRow base e size v n xs) (bel : Below w.heap.size w w') : w'.ownsRow base e size v n xs := by
  obtain ⟨hl, h0 | ⟨g, cap, cur, hv, hB, hh, hr⟩⟩ := h
  · exact ⟨hl, Or.inl h0⟩
  · exact ⟨hl, Or.inr ⟨g, cap, cur, hv, hB, (bel.block g (Array.getElem?_eq_some_iff.1 hh).1).trans hh, hr⟩⟩
theorem infoStr : (Tryd.prog.info? 9).map (fun i => (i.zero, i.size, i.bytes)) = some (some (.string ⟨#[]⟩), 1, 16) := by kernel_rfl
/-- A list that is owned lies somewhere, where it has an element; its cells. -/
theorem owns_at {w : World} {B : Nat} {e : TypeId} {v : Value} {ps : List ByteArray} (h : w.ownsRow B e 1 v ps.length (ps.map Value.string)) (hne : 0 < ps.length) :
    ∃ g cap, v = .slice (some ⟨g, 0, none⟩) ps.length cap ∧ ps.length ≤ cap ∧ g < w.heap.size ∧ ∀ (j : Nat) x, ps[j]? = some x → w.cell? ⟨g, 0 + j, none⟩ = some (.string x) := by
  obtain ⟨_, ⟨_, h0⟩ | ⟨g, cap, cur, rfl, hB, hh, hn, _, hs, ht⟩⟩ := h
  · omega
  · refine ⟨g, cap, rfl, hn, (Array.getElem?_eq_some_iff.1 hh).1, fun i x hi => ?_⟩
    obtain ⟨hi', hx⟩ := List.getElem?_eq_some_iff.1 hi
    have h1 : (cur.toList.take (ps.length * 1))[i]? = (ps.map Value.string)[i]? := by rw [ht]
    rw [List.getElem?_take_of_lt (by omega), List.getElem?_map, hi, Array.getElem?_toList] at h1
    simp only [World.cell?, hh, Nat.zero_add]
    exact h1

set_option maxHeartbeats 4000000 in
theorem impl_endText (e : En) (w : World) (B : Nat) (v : Array Value) (h : EnIs w B v e) (hw : EnWf e) (htab : Lib.TabIs Tryd.prog w "internal/strconv.uint64pow10" .u64 Lib.pow10Tab) :
    Calls Tryd.prog 8 #[.agg v] w fun en w' => en = .returned (.string ⟨(endL e.code e.val e.out).toArray⟩) ∧ Below w.heap.size w w' := by
  obtain ⟨i0, hi, hz0, hz1, hz2⟩ := info_parts infoStr
  obtain ⟨a, cap, rfl, hz⟩ := h
  obtain ⟨code, val, out⟩ := e
  obtain ⟨h0, h1, h2, hl⟩ := hw
  simp only at h0 h1 h2 hl hz ⊢
  have HT := hideP htab
  clear htab
  by_cases hc : 0 ≤ code ∧ code ≤ 3
  · have HZ := hideP hz
    have H2 := hideP h2
    have H1 := hideP h1
    clear hz h2 h1 h0
    obtain rfl | rfl | rfl | rfl : code = 0 ∨ code = 1 ∨ code = 2 ∨ code = 3 := by omega
    · have E : Hid (endL 0 val out = headL 0 val ++ numsL out) := by show endL _ _ _ = _; unfold endL; rw [if_pos (by omega)]
      have own0 : ((w.alloc (.cells #[.int .i64 0, .int .i64 val, .slice a out.length cap] 27)).alloc (.cells #[] 9)).ownsRow (w.heap.size + 1) 9 1 (.slice (some ⟨w.heap.size + 1, 0, none⟩) 0 0) 0 [] := by
        have := World.ownsRow_made (base := w.heap.size + 1) (e := 9) (size := 1) (w.alloc (.cells #[.int .i64 0, .int .i64 val, .slice a out.length cap] 27)) #[] 0 (by simp) (Nat.zero_le _) rfl
        simpa using this
      have b0 : Below (w.heap.size + 1) (w.alloc (.cells #[.int .i64 0, .int .i64 val, .slice a out.length cap] 27)) ((w.alloc (.cells #[.int .i64 0, .int .i64 val, .slice a out.length cap] 27)).alloc (.cells #[] 9)) := (Below.refl _ _).alloc (by simp) _
      have OWN0 := hideP own0
      have B0 := hideP b0
      clear own0 b0 hc
      go_enter Tryd.func8, Tryd.ntmps8
      go_wp2_with fail
      refine (impl_dec val _ H1.out.1 H1.out.2 (tab_below HT.out (below2 w _ _))).mono ?_
      rintro e2 w2 ⟨rfl, bel2⟩
      have OWN := hideP (owns_below OWN0.out bel2)
      have B2 := hideP (B0.out.trans (bel2.mono (by simp)))
      have hs2 : w.heap.size + 2 ≤ w2.heap.size := by have := bel2.size; simp at this; omega
      clear bel2 OWN0 B0
      go_wp2_with (at_builtin; refine wpList_append_own _ rfl _ _ 46 rfl (w.heap.size + 1) 9 i0 (.string ⟨#[]⟩) 1 16 Tryd.underlying46 hi hz0 hz1 hz2 rfl (by decide) _ _ _ rfl (OWN.out.alloc _) ⟨w2.heap.size, 0, none⟩ 2 2 [.string ⟨#[100, 111, 110, 101]⟩, .string ⟨(Lib.itoa val).toArray⟩] rfl rfl ?c1 ?c2 ?c3 ?c4 ?c5 ?_)
      case c1 =>
        intro j u hj
        match j, hj with
        | 0, hj => simp at hj; subst hj; simp [Addr.add]
        | 1, hj => simp at hj; subst hj; simp [Addr.add]
      case c2 => intro u hu; simp at hu; rcases hu with rfl | rfl <;> rfl
      case c3 => unfold maxLen; omega
      case c4 => omega
      case c5 => simp; omega
      intro v3 w3 hown3 hgrow _
      have B3 := hideP ((B2.out.alloc (show w.heap.size + 1 ≤ w2.heap.size by omega) _).grown hgrow (by simp; omega) (fun b hb => (OWN.out.lt b hb).1))
      have own3 : w3.ownsRow (w.heap.size + 1) 9 1 v3 [wd [100, 111, 110, 101], wd (Lib.itoa val)].length ([wd [100, 111, 110, 101], wd (Lib.itoa val)].map Value.string) := by simpa [wd] using hown3
      have OWN3 := hideP own3
      have c2 : w3.cell? ⟨w.heap.size, 2, none⟩ = some (.slice a out.length cap) := by
        rw [B3.out.cell (p := ⟨w.heap.size, 2, none⟩) (Nat.lt_succ_self _), World.cell?_alloc_new]; rfl
      clear hown3 own3 hgrow OWN B2 hs2
      have IX := hideP hi
      clear hi
      go_wp2
      go_loopw [3, 35] (fun v i wr => ∃ (k : Nat) (ps : List ByteArray), k ≤ out.length ∧ i = .int .i64 k ∧ Hid (ps.length = 2 + k) ∧ Hid (ps.map (fun b : ByteArray => b.data.toList) = [[100, 111, 110, 101], Lib.itoa val] ++ (out.take k).map Lib.itoa) ∧ Hid (wr.ownsRow (w.heap.size + 1) 9 1 v ps.length (ps.map Value.string)) ∧ Hid (Below (w.heap.size + 1) (w.alloc (.cells #[.int .i64 0, .int .i64 val, .slice a out.length cap] 27)) wr)) (fun _ i _ => out.length - (intOf i).toNat)
      case atStart => exact ⟨0, [wd [100, 111, 110, 101], wd (Lib.itoa val)], Nat.zero_le _, rfl, rfl, by show _ = _; simp [wd], OWN3, B3⟩
      case round =>
        obtain ⟨k, ps, hk, rfl, hpl, hps, hown, hbel⟩ := hrel
        have hsz : w.heap.size + 1 ≤ wr.heap.size := by have := hbel.out.size; simpa using this
        have hpb : ps.length ≤ 1048580 := by have := hpl.out; omega
        by_cases hlt : k < out.length
        · have bw : Below (w.alloc (.cells #[.int .i64 0, .int .i64 val, .slice a out.length cap] 27)).heap.size (w.alloc (.cells #[.int .i64 0, .int .i64 val, .slice a out.length cap] 27)) wr := hbel.out.mono (by simp)
          obtain ⟨b, o, rfl, _, hb, p0⟩ := ((HZ.out.stays ((Below.refl _ _).alloc (Nat.le_refl _) _)).stays bw).get k hlt
          obtain ⟨z, hz⟩ : ∃ z, out[k] = z := ⟨_, rfl⟩
          have hb64 := H2.out _ (List.getElem_mem hlt)
          rw [hz] at p0 hb64
          have HZk := hideP hz
          have H64 := hideP hb64
          have TW := hideP (tab_below (tab_below HT.out ((Below.refl _ _).alloc (Nat.le_refl _) _)) bw)
          clear hz hb64 hb bw
          go_wp2_with fail
          refine (impl_dec z _ H64.out.1 H64.out.2 TW.out).mono ?_
          rintro e4 w4 ⟨rfl, bel4⟩
          have OWN4 := hideP (owns_below hown.out bel4)
          have B4 := hideP (hbel.out.trans (bel4.mono hsz))
          have hs4 : w.heap.size + 1 ≤ w4.heap.size := Nat.le_trans hsz bel4.size
          have hi := IX.out
          clear bel4 p0
          go_wp2_with (at_builtin; refine wpList_append_own _ rfl _ _ 46 rfl (w.heap.size + 1) 9 i0 (.string ⟨#[]⟩) 1 16 Tryd.underlying46 hi hz0 hz1 hz2 rfl (by decide) _ _ _ rfl (OWN4.out.alloc _) ⟨w4.heap.size, 0, none⟩ 1 1 [.string ⟨(Lib.itoa z).toArray⟩] rfl rfl ?c1 ?c2 ?c3 ?c4 ?c5 ?_)
          case c1 =>
            intro j u hj
            match j, hj with
            | 0, hj => simp at hj; subst hj; simp [Addr.add]
          case c2 => intro u hu; simp at hu; subst hu; rfl
          case c3 => unfold maxLen; omega
          case c4 => omega
          case c5 => simp; omega
          intro v5 w5 hown5 hgrow _
          have B5 := hideP ((B4.out.alloc hs4 _).grown hgrow (by simp; omega) (fun b hb => (OWN4.out.lt b hb).1))
          have own5 : w5.ownsRow (w.heap.size + 1) 9 1 v5 (ps ++ [wd (Lib.itoa z)]).length ((ps ++ [wd (Lib.itoa z)]).map Value.string) := by simpa [wd] using hown5
          have OWN5 := hideP own5
          clear hown5 own5 hgrow OWN4 B4 hs4 hi
          go_wp2
          go_roundw
          case rel => exact ⟨k + 1, ps ++ [wd (Lib.itoa z)], by omega, by go_num, by show _ = _; have := hpl.out; simp; omega, by show _ = _; rw [List.take_succ_eq_append_getElem hlt, HZk.out]; simp [hps.out, wd], OWN5, B5⟩
          case measure => simp [intOf]; omega
        · have hkn : k = out.length := by omega
          subst hkn
          obtain ⟨g, capv, rfl, hcap, hg, hcells⟩ := owns_at hown.out (by have := hpl.out; omega)
          have J : Hid (Lib.join (ps.map (fun b : ByteArray => b.data.toList)) [32] = endL 0 val out) := by
            show _ = _
            rw [hps.out, List.take_length, E.out]
            show Lib.join ([100, 111, 110, 101] :: Lib.itoa val :: out.map Lib.itoa) [32] = _; rw [join_words2]; simp [headL]
          have hJl : (endL 0 val out).length ≤ 26 + 22 * out.length := by
            rw [E.out, List.length_append]
            have q1 := headL_len (c := 0) H1.out
            have q2 := numsL_len out H2.out
            omega
          have JC := hideP (Tryd.strings_Join g 0 capv ps ⟨#[32]⟩ wr hcells hg (by omega) hcap (by have := J.out; show (Lib.join _ [32]).length ≤ _; rw [this]; omega))
          clear hcells hg hcap
          go_wp2_with fail
          refine JC.out.mono ?_
          rintro e6 w6 ⟨rfl, bel6⟩
          have HW6 := hideP (((Below.refl w.heap.size w).alloc (Nat.le_refl _) (.cells #[.int .i64 0, .int .i64 val, .slice a out.length cap] 27)).trans ((hbel.out.trans (bel6.mono hsz)).mono (Nat.le_succ _)))
          clear bel6
          go_wp2
          go_ret
          exact ⟨ret_str (by have := J.out; show (⟨(Lib.join _ [32]).toArray⟩ : ByteArray) = _; rw [this]), HW6.out⟩
    · have E : Hid (endL 1 val out = headL 1 val ++ numsL out) := by show endL _ _ _ = _; unfold endL; rw [if_pos (by omega)]
      have own0 : ((w.alloc (.cells #[.int .i64 1, .int .i64 val, .slice a out.length cap] 27)).alloc (.cells #[] 9)).ownsRow (w.heap.size + 1) 9 1 (.slice (some ⟨w.heap.size + 1, 0, none⟩) 0 0) 0 [] := by
        have := World.ownsRow_made (base := w.heap.size + 1) (e := 9) (size := 1) (w.alloc (.cells #[.int .i64 1, .int .i64 val, .slice a out.length cap] 27)) #[] 0 (by simp) (Nat.zero_le _) rfl
        simpa using this
      have b0 : Below (w.heap.size + 1) (w.alloc (.cells #[.int .i64 1, .int .i64 val, .slice a out.length cap] 27)) ((w.alloc (.cells #[.int .i64 1, .int .i64 val, .slice a out.length cap] 27)).alloc (.cells #[] 9)) := (Below.refl _ _).alloc (by simp) _
      have OWN0 := hideP own0
      have B0 := hideP b0
      clear own0 b0 hc
      go_enter Tryd.func8, Tryd.ntmps8
      obtain ⟨w2, hw2⟩ : ∃ w2, (w.alloc (.cells #[.int .i64 1, .int .i64 val, .slice a out.length cap] 27)).alloc (.cells #[] 9) = w2 := ⟨_, rfl⟩
      have hs2 : w.heap.size + 2 ≤ w2.heap.size := by rw [← hw2]; simp
      have OWN : Hid (w2.ownsRow (w.heap.size + 1) 9 1 (.slice (some ⟨w.heap.size + 1, 0, none⟩) 0 0) 0 []) := by rw [← hw2]; exact OWN0
      have B2 : Hid (Below (w.heap.size + 1) (w.alloc (.cells #[.int .i64 1, .int .i64 val, .slice a out.length cap] 27)) w2) := by rw [← hw2]; exact B0
      subst hw2
      clear OWN0 B0
      go_wp2_with (at_builtin; refine wpList_append_own _ rfl _ _ 46 rfl (w.heap.size + 1) 9 i0 (.string ⟨#[]⟩) 1 16 Tryd.underlying46 hi hz0 hz1 hz2 rfl (by decide) _ _ _ rfl (OWN.out.alloc _) ⟨w.heap.size + 1 + 1, 0, none⟩ 1 1 [.string ⟨#[116, 114, 97, 112]⟩] rfl rfl ?c1 ?c2 ?c3 ?c4 ?c5 ?_)
      case c1 =>
        intro j u hj
        match j, hj with
        | 0, hj =>
          simp at hj; subst hj
          have hn := World.cell?_alloc_new (w := (w.alloc (.cells #[.int .i64 1, .int .i64 val, .slice a out.length cap] 27)).alloc (.cells #[] 9)) #[.string ⟨#[116, 114, 97, 112]⟩] 9 0
          simpa [Addr.add] using hn
      case c2 => intro u hu; simp at hu; subst hu; rfl
      case c3 => unfold maxLen; omega
      case c4 => omega
      case c5 => simp
      intro v3 w3 hown3 hgrow _
      have B3 := hideP ((B2.out.alloc (by simp) _).grown hgrow (by simp) (fun b hb => (OWN.out.lt b hb).1))
      have own3 : w3.ownsRow (w.heap.size + 1) 9 1 v3 [wd [116, 114, 97, 112]].length ([wd [116, 114, 97, 112]].map Value.string) := by simpa [wd] using hown3
      have OWN3 := hideP own3
      have c2 : w3.cell? ⟨w.heap.size, 2, none⟩ = some (.slice a out.length cap) := by
        rw [B3.out.cell (p := ⟨w.heap.size, 2, none⟩) (Nat.lt_succ_self _), World.cell?_alloc_new]; rfl
      clear hown3 own3 hgrow OWN B2 hs2
      have IX := hideP hi
      clear hi
      go_wp2
      go_loopw [3, 35] (fun v i wr => ∃ (k : Nat) (ps : List ByteArray), k ≤ out.length ∧ i = .int .i64 k ∧ Hid (ps.length = 1 + k) ∧ Hid (ps.map (fun b : ByteArray => b.data.toList) = [[116, 114, 97, 112]] ++ (out.take k).map Lib.itoa) ∧ Hid (wr.ownsRow (w.heap.size + 1) 9 1 v ps.length (ps.map Value.string)) ∧ Hid (Below (w.heap.size + 1) (w.alloc (.cells #[.int .i64 1, .int .i64 val, .slice a out.length cap] 27)) wr)) (fun _ i _ => out.length - (intOf i).toNat)
      case atStart => exact ⟨0, [wd [116, 114, 97, 112]], Nat.zero_le _, rfl, rfl, by show _ = _; simp [wd], OWN3, B3⟩
      case round =>
        obtain ⟨k, ps, hk, rfl, hpl, hps, hown, hbel⟩ := hrel
        have hsz : w.heap.size + 1 ≤ wr.heap.size := by have := hbel.out.size; simpa using this
        have hpb : ps.length ≤ 1048580 := by have := hpl.out; omega
        by_cases hlt : k < out.length
        · have bw : Below (w.alloc (.cells #[.int .i64 1, .int .i64 val, .slice a out.length cap] 27)).heap.size (w.alloc (.cells #[.int .i64 1, .int .i64 val, .slice a out.length cap] 27)) wr := hbel.out.mono (by simp)
          obtain ⟨b, o, rfl, _, hb, p0⟩ := ((HZ.out.stays ((Below.refl _ _).alloc (Nat.le_refl _) _)).stays bw).get k hlt
          obtain ⟨z, hz⟩ : ∃ z, out[k] = z := ⟨_, rfl⟩
          have hb64 := H2.out _ (List.getElem_mem hlt)
          rw [hz] at p0 hb64
          have HZk := hideP hz
          have H64 := hideP hb64
          have TW := hideP (tab_below (tab_below HT.out ((Below.refl _ _).alloc (Nat.le_refl _) _)) bw)
          clear hz hb64 hb bw
          go_wp2_with fail
          refine (impl_dec z _ H64.out.1 H64.out.2 TW.out).mono ?_
          rintro e4 w4 ⟨rfl, bel4⟩
          have OWN4 := hideP (owns_below hown.out bel4)
          have B4 := hideP (hbel.out.trans (bel4.mono hsz))
          have hs4 : w.heap.size + 1 ≤ w4.heap.size := Nat.le_trans hsz bel4.size
          have hi := IX.out
          clear bel4 p0
          go_wp2_with (at_builtin; refine wpList_append_own _ rfl _ _ 46 rfl (w.heap.size + 1) 9 i0 (.string ⟨#[]⟩) 1 16 Tryd.underlying46 hi hz0 hz1 hz2 rfl (by decide) _ _ _ rfl (OWN4.out.alloc _) ⟨w4.heap.size, 0, none⟩ 1 1 [.string ⟨(Lib.itoa z).toArray⟩] rfl rfl ?c1 ?c2 ?c3 ?c4 ?c5 ?_)
          case c1 =>
            intro j u hj
            match j, hj with
            | 0, hj => simp at hj; subst hj; simp [Addr.add]
          case c2 => intro u hu; simp at hu; subst hu; rfl
          case c3 => unfold maxLen; omega
          case c4 => omega
          case c5 => simp; omega
          intro v5 w5 hown5 hgrow _
          have B5 := hideP ((B4.out.alloc hs4 _).grown hgrow (by simp; omega) (fun b hb => (OWN4.out.lt b hb).1))
          have own5 : w5.ownsRow (w.heap.size + 1) 9 1 v5 (ps ++ [wd (Lib.itoa z)]).length ((ps ++ [wd (Lib.itoa z)]).map Value.string) := by simpa [wd] using hown5
          have OWN5 := hideP own5
          clear hown5 own5 hgrow OWN4 B4 hs4 hi
          go_wp2
          go_roundw
          case rel => exact ⟨k + 1, ps ++ [wd (Lib.itoa z)], by omega, by go_num, by show _ = _; have := hpl.out; simp; omega, by show _ = _; rw [List.take_succ_eq_append_getElem hlt, HZk.out]; simp [hps.out, wd], OWN5, B5⟩
          case measure => simp [intOf]; omega
        · have hkn : k = out.length := by omega
          subst hkn
          obtain ⟨g, capv, rfl, hcap, hg, hcells⟩ := owns_at hown.out (by have := hpl.out; omega)
          have J : Hid (Lib.join (ps.map (fun b : ByteArray => b.data.toList)) [32] = endL 1 val out) := by
            show _ = _
            rw [hps.out, List.take_length, E.out]
            show Lib.join ([116, 114, 97, 112] :: out.map Lib.itoa) [32] = _; rw [join_words]; simp [headL]
          have hJl : (endL 1 val out).length ≤ 26 + 22 * out.length := by
            rw [E.out, List.length_append]
            have q1 := headL_len (c := 1) H1.out
            have q2 := numsL_len out H2.out
            omega
          have JC := hideP (Tryd.strings_Join g 0 capv ps ⟨#[32]⟩ wr hcells hg (by omega) hcap (by have := J.out; show (Lib.join _ [32]).length ≤ _; rw [this]; omega))
          clear hcells hg hcap
          go_wp2_with fail
          refine JC.out.mono ?_
          rintro e6 w6 ⟨rfl, bel6⟩
          have HW6 := hideP (((Below.refl w.heap.size w).alloc (Nat.le_refl _) (.cells #[.int .i64 1, .int .i64 val, .slice a out.length cap] 27)).trans ((hbel.out.trans (bel6.mono hsz)).mono (Nat.le_succ _)))
          clear bel6
          go_wp2
          go_ret
          exact ⟨ret_str (by have := J.out; show (⟨(Lib.join _ [32]).toArray⟩ : ByteArray) = _; rw [this]), HW6.out⟩
    · have E : Hid (endL 2 val out = headL 2 val ++ numsL out) := by show endL _ _ _ = _; unfold endL; rw [if_pos (by omega)]
      have own0 : ((w.alloc (.cells #[.int .i64 2, .int .i64 val, .slice a out.length cap] 27)).alloc (.cells #[] 9)).ownsRow (w.heap.size + 1) 9 1 (.slice (some ⟨w.heap.size + 1, 0, none⟩) 0 0) 0 [] := by
        have := World.ownsRow_made (base := w.heap.size + 1) (e := 9) (size := 1) (w.alloc (.cells #[.int .i64 2, .int .i64 val, .slice a out.length cap] 27)) #[] 0 (by simp) (Nat.zero_le _) rfl
        simpa using this
      have b0 : Below (w.heap.size + 1) (w.alloc (.cells #[.int .i64 2, .int .i64 val, .slice a out.length cap] 27)) ((w.alloc (.cells #[.int .i64 2, .int .i64 val, .slice a out.length cap] 27)).alloc (.cells #[] 9)) := (Below.refl _ _).alloc (by simp) _
      have OWN0 := hideP own0
      have B0 := hideP b0
      clear own0 b0 hc
      go_enter Tryd.func8, Tryd.ntmps8
      obtain ⟨w2, hw2⟩ : ∃ w2, (w.alloc (.cells #[.int .i64 2, .int .i64 val, .slice a out.length cap] 27)).alloc (.cells #[] 9) = w2 := ⟨_, rfl⟩
      have hs2 : w.heap.size + 2 ≤ w2.heap.size := by rw [← hw2]; simp
      have OWN : Hid (w2.ownsRow (w.heap.size + 1) 9 1 (.slice (some ⟨w.heap.size + 1, 0, none⟩) 0 0) 0 []) := by rw [← hw2]; exact OWN0
      have B2 : Hid (Below (w.heap.size + 1) (w.alloc (.cells #[.int .i64 2, .int .i64 val, .slice a out.length cap] 27)) w2) := by rw [← hw2]; exact B0
      subst hw2
      clear OWN0 B0
      go_wp2_with (at_builtin; refine wpList_append_own _ rfl _ _ 46 rfl (w.heap.size + 1) 9 i0 (.string ⟨#[]⟩) 1 16 Tryd.underlying46 hi hz0 hz1 hz2 rfl (by decide) _ _ _ rfl (OWN.out.alloc _) ⟨w.heap.size + 1 + 1, 0, none⟩ 1 1 [.string ⟨#[102, 117, 101, 108]⟩] rfl rfl ?c1 ?c2 ?c3 ?c4 ?c5 ?_)
      case c1 =>
        intro j u hj
        match j, hj with
        | 0, hj =>
          simp at hj; subst hj
          have hn := World.cell?_alloc_new (w := (w.alloc (.cells #[.int .i64 2, .int .i64 val, .slice a out.length cap] 27)).alloc (.cells #[] 9)) #[.string ⟨#[102, 117, 101, 108]⟩] 9 0
          simpa [Addr.add] using hn
      case c2 => intro u hu; simp at hu; subst hu; rfl
      case c3 => unfold maxLen; omega
      case c4 => omega
      case c5 => simp
      intro v3 w3 hown3 hgrow _
      have B3 := hideP ((B2.out.alloc (by simp) _).grown hgrow (by simp) (fun b hb => (OWN.out.lt b hb).1))
      have own3 : w3.ownsRow (w.heap.size + 1) 9 1 v3 [wd [102, 117, 101, 108]].length ([wd [102, 117, 101, 108]].map Value.string) := by simpa [wd] using hown3
      have OWN3 := hideP own3
      have c2 : w3.cell? ⟨w.heap.size, 2, none⟩ = some (.slice a out.length cap) := by
        rw [B3.out.cell (p := ⟨w.heap.size, 2, none⟩) (Nat.lt_succ_self _), World.cell?_alloc_new]; rfl
      clear hown3 own3 hgrow OWN B2 hs2
      have IX := hideP hi
      clear hi
      go_wp2
      go_loopw [3, 35] (fun v i wr => ∃ (k : Nat) (ps : List ByteArray), k ≤ out.length ∧ i = .int .i64 k ∧ Hid (ps.length = 1 + k) ∧ Hid (ps.map (fun b : ByteArray => b.data.toList) = [[102, 117, 101, 108]] ++ (out.take k).map Lib.itoa) ∧ Hid (wr.ownsRow (w.heap.size + 1) 9 1 v ps.length (ps.map Value.string)) ∧ Hid (Below (w.heap.size + 1) (w.alloc (.cells #[.int .i64 2, .int .i64 val, .slice a out.length cap] 27)) wr)) (fun _ i _ => out.length - (intOf i).toNat)
      case atStart => exact ⟨0, [wd [102, 117, 101, 108]], Nat.zero_le _, rfl, rfl, by show _ = _; simp [wd], OWN3, B3⟩
      case round =>
        obtain ⟨k, ps, hk, rfl, hpl, hps, hown, hbel⟩ := hrel
        have hsz : w.heap.size + 1 ≤ wr.heap.size := by have := hbel.out.size; simpa using this
        have hpb : ps.length ≤ 1048580 := by have := hpl.out; omega
        by_cases hlt : k < out.length
        · have bw : Below (w.alloc (.cells #[.int .i64 2, .int .i64 val, .slice a out.length cap] 27)).heap.size (w.alloc (.cells #[.int .i64 2, .int .i64 val, .slice a out.length cap] 27)) wr := hbel.out.mono (by simp)
          obtain ⟨b, o, rfl, _, hb, p0⟩ := ((HZ.out.stays ((Below.refl _ _).alloc (Nat.le_refl _) _)).stays bw).get k hlt
          obtain ⟨z, hz⟩ : ∃ z, out[k] = z := ⟨_, rfl⟩
          have hb64 := H2.out _ (List.getElem_mem hlt)
          rw [hz] at p0 hb64
          have HZk := hideP hz
          have H64 := hideP hb64
          have TW := hideP (tab_below (tab_below HT.out ((Below.refl _ _).alloc (Nat.le_refl _) _)) bw)
          clear hz hb64 hb bw
          go_wp2_with fail
          refine (impl_dec z _ H64.out.1 H64.out.2 TW.out).mono ?_
          rintro e4 w4 ⟨rfl, bel4⟩
          have OWN4 := hideP (owns_below hown.out bel4)
          have B4 := hideP (hbel.out.trans (bel4.mono hsz))
          have hs4 : w.heap.size + 1 ≤ w4.heap.size := Nat.le_trans hsz bel4.size
          have hi := IX.out
          clear bel4 p0
          go_wp2_with (at_builtin; refine wpList_append_own _ rfl _ _ 46 rfl (w.heap.size + 1) 9 i0 (.string ⟨#[]⟩) 1 16 Tryd.underlying46 hi hz0 hz1 hz2 rfl (by decide) _ _ _ rfl (OWN4.out.alloc _) ⟨w4.heap.size, 0, none⟩ 1 1 [.string ⟨(Lib.itoa z).toArray⟩] rfl rfl ?c1 ?c2 ?c3 ?c4 ?c5 ?_)
          case c1 =>
            intro j u hj
            match j, hj with
            | 0, hj => simp at hj; subst hj; simp [Addr.add]
          case c2 => intro u hu; simp at hu; subst hu; rfl
          case c3 => unfold maxLen; omega
          case c4 => omega
          case c5 => simp; omega
          intro v5 w5 hown5 hgrow _
          have B5 := hideP ((B4.out.alloc hs4 _).grown hgrow (by simp; omega) (fun b hb => (OWN4.out.lt b hb).1))
          have own5 : w5.ownsRow (w.heap.size + 1) 9 1 v5 (ps ++ [wd (Lib.itoa z)]).length ((ps ++ [wd (Lib.itoa z)]).map Value.string) := by simpa [wd] using hown5
          have OWN5 := hideP own5
          clear hown5 own5 hgrow OWN4 B4 hs4 hi
          go_wp2
          go_roundw
          case rel => exact ⟨k + 1, ps ++ [wd (Lib.itoa z)], by omega, by go_num, by show _ = _; have := hpl.out; simp; omega, by show _ = _; rw [List.take_succ_eq_append_getElem hlt, HZk.out]; simp [hps.out, wd], OWN5, B5⟩
          case measure => simp [intOf]; omega
        · have hkn : k = out.length := by omega
          subst hkn
          obtain ⟨g, capv, rfl, hcap, hg, hcells⟩ := owns_at hown.out (by have := hpl.out; omega)
          have J : Hid (Lib.join (ps.map (fun b : ByteArray => b.data.toList)) [32] = endL 2 val out) := by
            show _ = _
            rw [hps.out, List.take_length, E.out]
            show Lib.join ([102, 117, 101, 108] :: out.map Lib.itoa) [32] = _; rw [join_words]; simp [headL]
          have hJl : (endL 2 val out).length ≤ 26 + 22 * out.length := by
            rw [E.out, List.length_append]
            have q1 := headL_len (c := 2) H1.out
            have q2 := numsL_len out H2.out
            omega
          have JC := hideP (Tryd.strings_Join g 0 capv ps ⟨#[32]⟩ wr hcells hg (by omega) hcap (by have := J.out; show (Lib.join _ [32]).length ≤ _; rw [this]; omega))
          clear hcells hg hcap
          go_wp2_with fail
          refine JC.out.mono ?_
          rintro e6 w6 ⟨rfl, bel6⟩
          have HW6 := hideP (((Below.refl w.heap.size w).alloc (Nat.le_refl _) (.cells #[.int .i64 2, .int .i64 val, .slice a out.length cap] 27)).trans ((hbel.out.trans (bel6.mono hsz)).mono (Nat.le_succ _)))
          clear bel6
          go_wp2
          go_ret
          exact ⟨ret_str (by have := J.out; show (⟨(Lib.join _ [32]).toArray⟩ : ByteArray) = _; rw [this]), HW6.out⟩
    · have E : Hid (endL 3 val out = headL 3 val ++ numsL out) := by show endL _ _ _ = _; unfold endL; rw [if_pos (by omega)]
      have own0 : ((w.alloc (.cells #[.int .i64 3, .int .i64 val, .slice a out.length cap] 27)).alloc (.cells #[] 9)).ownsRow (w.heap.size + 1) 9 1 (.slice (some ⟨w.heap.size + 1, 0, none⟩) 0 0) 0 [] := by
        have := World.ownsRow_made (base := w.heap.size + 1) (e := 9) (size := 1) (w.alloc (.cells #[.int .i64 3, .int .i64 val, .slice a out.length cap] 27)) #[] 0 (by simp) (Nat.zero_le _) rfl
        simpa using this
      have b0 : Below (w.heap.size + 1) (w.alloc (.cells #[.int .i64 3, .int .i64 val, .slice a out.length cap] 27)) ((w.alloc (.cells #[.int .i64 3, .int .i64 val, .slice a out.length cap] 27)).alloc (.cells #[] 9)) := (Below.refl _ _).alloc (by simp) _
      have OWN0 := hideP own0
      have B0 := hideP b0
      clear own0 b0 hc
      go_enter Tryd.func8, Tryd.ntmps8
      obtain ⟨w2, hw2⟩ : ∃ w2, (w.alloc (.cells #[.int .i64 3, .int .i64 val, .slice a out.length cap] 27)).alloc (.cells #[] 9) = w2 := ⟨_, rfl⟩
      have hs2 : w.heap.size + 2 ≤ w2.heap.size := by rw [← hw2]; simp
      have OWN : Hid (w2.ownsRow (w.heap.size + 1) 9 1 (.slice (some ⟨w.heap.size + 1, 0, none⟩) 0 0) 0 []) := by rw [← hw2]; exact OWN0
      have B2 : Hid (Below (w.heap.size + 1) (w.alloc (.cells #[.int .i64 3, .int .i64 val, .slice a out.length cap] 27)) w2) := by rw [← hw2]; exact B0
      subst hw2
      clear OWN0 B0
      go_wp2_with (at_builtin; refine wpList_append_own _ rfl _ _ 46 rfl (w.heap.size + 1) 9 i0 (.string ⟨#[]⟩) 1 16 Tryd.underlying46 hi hz0 hz1 hz2 rfl (by decide) _ _ _ rfl (OWN.out.alloc _) ⟨w.heap.size + 1 + 1, 0, none⟩ 1 1 [.string ⟨#[110, 111, 110, 101]⟩] rfl rfl ?c1 ?c2 ?c3 ?c4 ?c5 ?_)
      case c1 =>
        intro j u hj
        match j, hj with
        | 0, hj =>
          simp at hj; subst hj
          have hn := World.cell?_alloc_new (w := (w.alloc (.cells #[.int .i64 3, .int .i64 val, .slice a out.length cap] 27)).alloc (.cells #[] 9)) #[.string ⟨#[110, 111, 110, 101]⟩] 9 0
          simpa [Addr.add] using hn
      case c2 => intro u hu; simp at hu; subst hu; rfl
      case c3 => unfold maxLen; omega
      case c4 => omega
      case c5 => simp
      intro v3 w3 hown3 hgrow _
      have B3 := hideP ((B2.out.alloc (by simp) _).grown hgrow (by simp) (fun b hb => (OWN.out.lt b hb).1))
      have own3 : w3.ownsRow (w.heap.size + 1) 9 1 v3 [wd [110, 111, 110, 101]].length ([wd [110, 111, 110, 101]].map Value.string) := by simpa [wd] using hown3
      have OWN3 := hideP own3
      have c2 : w3.cell? ⟨w.heap.size, 2, none⟩ = some (.slice a out.length cap) := by
        rw [B3.out.cell (p := ⟨w.heap.size, 2, none⟩) (Nat.lt_succ_self _), World.cell?_alloc_new]; rfl
      clear hown3 own3 hgrow OWN B2 hs2
      have IX := hideP hi
      clear hi
      go_wp2
      go_loopw [3, 35] (fun v i wr => ∃ (k : Nat) (ps : List ByteArray), k ≤ out.length ∧ i = .int .i64 k ∧ Hid (ps.length = 1 + k) ∧ Hid (ps.map (fun b : ByteArray => b.data.toList) = [[110, 111, 110, 101]] ++ (out.take k).map Lib.itoa) ∧ Hid (wr.ownsRow (w.heap.size + 1) 9 1 v ps.length (ps.map Value.string)) ∧ Hid (Below (w.heap.size + 1) (w.alloc (.cells #[.int .i64 3, .int .i64 val, .slice a out.length cap] 27)) wr)) (fun _ i _ => out.length - (intOf i).toNat)
      case atStart => exact ⟨0, [wd [110, 111, 110, 101]], Nat.zero_le _, rfl, rfl, by show _ = _; simp [wd], OWN3, B3⟩
      case round =>
        obtain ⟨k, ps, hk, rfl, hpl, hps, hown, hbel⟩ := hrel
        have hsz : w.heap.size + 1 ≤ wr.heap.size := by have := hbel.out.size; simpa using this
        have hpb : ps.length ≤ 1048580 := by have := hpl.out; omega
        by_cases hlt : k < out.length
        · have bw : Below (w.alloc (.cells #[.int .i64 3, .int .i64 val, .slice a out.length cap] 27)).heap.size (w.alloc (.cells #[.int .i64 3, .int .i64 val, .slice a out.length cap] 27)) wr := hbel.out.mono (by simp)
          obtain ⟨b, o, rfl, _, hb, p0⟩ := ((HZ.out.stays ((Below.refl _ _).alloc (Nat.le_refl _) _)).stays bw).get k hlt
          obtain ⟨z, hz⟩ : ∃ z, out[k] = z := ⟨_, rfl⟩
          have hb64 := H2.out _ (List.getElem_mem hlt)
          rw [hz] at p0 hb64
          have HZk := hideP hz
          have H64 := hideP hb64
          have TW := hideP (tab_below (tab_below HT.out ((Below.refl _ _).alloc (Nat.le_refl _) _)) bw)
          clear hz hb64 hb bw
          go_wp2_with fail
          refine (impl_dec z _ H64.out.1 H64.out.2 TW.out).mono ?_
          rintro e4 w4 ⟨rfl, bel4⟩
          have OWN4 := hideP (owns_below hown.out bel4)
          have B4 := hideP (hbel.out.trans (bel4.mono hsz))
          have hs4 : w.heap.size + 1 ≤ w4.heap.size := Nat.le_trans hsz bel4.size
          have hi := IX.out
          clear bel4 p0
          go_wp2_with (at_builtin; refine wpList_append_own _ rfl _ _ 46 rfl (w.heap.size + 1) 9 i0 (.string ⟨#[]⟩) 1 16 Tryd.underlying46 hi hz0 hz1 hz2 rfl (by decide) _ _ _ rfl (OWN4.out.alloc _) ⟨w4.heap.size, 0, none⟩ 1 1 [.string ⟨(Lib.itoa z).toArray⟩] rfl rfl ?c1 ?c2 ?c3 ?c4 ?c5 ?_)
          case c1 =>
            intro j u hj
            match j, hj with
            | 0, hj => simp at hj; subst hj; simp [Addr.add]
          case c2 => intro u hu; simp at hu; subst hu; rfl
          case c3 => unfold maxLen; omega
          case c4 => omega
          case c5 => simp; omega
          intro v5 w5 hown5 hgrow _
          have B5 := hideP ((B4.out.alloc hs4 _).grown hgrow (by simp; omega) (fun b hb => (OWN4.out.lt b hb).1))
          have own5 : w5.ownsRow (w.heap.size + 1) 9 1 v5 (ps ++ [wd (Lib.itoa z)]).length ((ps ++ [wd (Lib.itoa z)]).map Value.string) := by simpa [wd] using hown5
          have OWN5 := hideP own5
          clear hown5 own5 hgrow OWN4 B4 hs4 hi
          go_wp2
          go_roundw
          case rel => exact ⟨k + 1, ps ++ [wd (Lib.itoa z)], by omega, by go_num, by show _ = _; have := hpl.out; simp; omega, by show _ = _; rw [List.take_succ_eq_append_getElem hlt, HZk.out]; simp [hps.out, wd], OWN5, B5⟩
          case measure => simp [intOf]; omega
        · have hkn : k = out.length := by omega
          subst hkn
          obtain ⟨g, capv, rfl, hcap, hg, hcells⟩ := owns_at hown.out (by have := hpl.out; omega)
          have J : Hid (Lib.join (ps.map (fun b : ByteArray => b.data.toList)) [32] = endL 3 val out) := by
            show _ = _
            rw [hps.out, List.take_length, E.out]
            show Lib.join ([110, 111, 110, 101] :: out.map Lib.itoa) [32] = _; rw [join_words]; simp [headL]
          have hJl : (endL 3 val out).length ≤ 26 + 22 * out.length := by
            rw [E.out, List.length_append]
            have q1 := headL_len (c := 3) H1.out
            have q2 := numsL_len out H2.out
            omega
          have JC := hideP (Tryd.strings_Join g 0 capv ps ⟨#[32]⟩ wr hcells hg (by omega) hcap (by have := J.out; show (Lib.join _ [32]).length ≤ _; rw [this]; omega))
          clear hcells hg hcap
          go_wp2_with fail
          refine JC.out.mono ?_
          rintro e6 w6 ⟨rfl, bel6⟩
          have HW6 := hideP (((Below.refl w.heap.size w).alloc (Nat.le_refl _) (.cells #[.int .i64 3, .int .i64 val, .slice a out.length cap] 27)).trans ((hbel.out.trans (bel6.mono hsz)).mono (Nat.le_succ _)))
          clear bel6
          go_wp2
          go_ret
          exact ⟨ret_str (by have := J.out; show (⟨(Lib.join _ [32]).toArray⟩ : ByteArray) = _; rw [this]), HW6.out⟩
  · have E : Hid (endL code val out = []) := by show endL _ _ _ = []; unfold endL; rw [if_neg hc]
    clear hz h2 hi hz0 hz1 hz2
    have n0 : ¬ code = 0 := by omega
    have n1 : ¬ code = 1 := by omega
    have n2 : ¬ code = 2 := by omega
    have n3 : ¬ code = 3 := by omega
    clear hc
    go_enter Tryd.func8, Tryd.ntmps8
    go_wp2
    go_ret
    exact ⟨ret_str (by rw [E.out]), below2 w _ _⟩
end Go.Proofs.YtfoaplihindeaaiDoor
