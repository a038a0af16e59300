/- The contract of the specification's l02Show: a right expression's text. -/
import Derived.Test.YtfoaplihindeaagDoorShowPlain
import Derived.Test.YtfoaplihindeaagDoorDec
import Derived.Deep.CutRange
import Derived.Deep.RegionHeld3
namespace Go.Proofs.YtfoaplihindeaagDoor
open Go.ChangeShapes Go.WideShapes Go.ChangeAt Go.RowKit
theorem keep {W W' : World} {b : Nat} {o : Obj} (h : W.heap[b]? = some o) (bel : Below W.heap.size W W') : W'.heap[b]? = some o := (bel.block b (Array.getElem?_eq_some_iff.1 h).1).trans h
theorem blk_new (w : World) (o : Obj) : (w.alloc o).heap[w.heap.size]? = some o := by show (w.heap.push o)[w.heap.size]? = _; exact Array.getElem?_push_size
theorem lit_of {l : List UInt8} {s : ByteArray} (h : (⟨l.toArray⟩ : ByteArray) = s) : s.data.toList = l ∧ s.size = l.length := by subst h; simp [ba_size]
set_option maxHeartbeats 1000000 in
theorem l02Mem_any (n b : Int) (hn : In64 n) (hb : In64 b) (w : World) :
    Calls Tryd.prog 39 #[.int .i64 n, .int .i64 b] w fun e w' => e = .returned (.string ⟨(memL n b).toArray⟩) ∧ w' = w := by
  have l1 := itoa_len hn.1 hn.2
  have l2 := itoa_len hb.1 hb.2
  by_cases h : b < 0
  · have E : Hid (memL n b = 114 :: Lib.itoa n) := by show _ = _; unfold memL; rw [if_pos h]; simp
    go_enter Tryd.func39, Tryd.ntmps39
    go_wp2_with (go_at_call 18; refine (spec_dec n _ hn.1 hn.2).mono ?_; rintro e1 w1 ⟨rfl, rfl⟩)
    go_ret
    exact ⟨ret_str (mk_of (by rw [E.out]; simp)), rfl⟩
  · have E : Hid (memL n b = 114 :: Lib.itoa n ++ [43, 118] ++ Lib.itoa b) := by show _ = _; unfold memL; rw [if_neg h]; simp
    go_enter Tryd.func39, Tryd.ntmps39
    go_wp2_with fail
    refine (spec_dec n _ hn.1 hn.2).mono ?_
    rintro e1 w1 ⟨rfl, rfl⟩
    go_wp2_with fail
    refine (spec_dec b _ hb.1 hb.2).mono ?_
    rintro e1 w1 ⟨rfl, rfl⟩
    go_wp2
    go_ret
    exact ⟨ret_str (mk_of (by rw [E.out]; simp)), rfl⟩

def ShS (e : Ex) : Prop := ∀ (w : World) (B : Nat) (v : Array Value) (R V d : Int), ExIs w B v e → In64 R → In64 V → exOk R V d e = true → e.sz ≤ 1048576 →
  Calls Tryd.prog 31 #[.agg v] w fun en w' => en = .returned (.string ⟨e.tx.toArray⟩) ∧ Below w.heap.size w w'
theorem sz_kid {l : List Ex} {e : Ex} (h : e ∈ l) : e.sz + 1 ≤ exsSz l := by
  have := exsSum_mem h
  have : 0 < l.length := List.length_pos_of_mem h
  unfold exsSz; omega
set_option maxHeartbeats 4000000 in
theorem l02Show_any (e : Ex) : ShS e := by
  induction e using Ex.ind with
  | h k n b t kids ih =>
    intro w B v R V d hx hR hV hok hsz
    obtain ⟨a, cap, rfl, ht, hks⟩ := hx.out
    obtain ⟨hkid, hc⟩ := ok_out hok
    have hm := maxLen_lt
    have r0 := hR.2
    have v0 := hV.2
    rw [Ex.sz_mk] at hsz
    have TL := fun e (he : e ∈ kids) => tx_len hR hV e _ (hkid e he)
    rcases hc with ⟨rfl, h0, h1⟩ | ⟨rfl, h0, h1⟩ | ⟨rfl, h0, h1, h2, h3⟩ | ⟨rfl, h3⟩ | rfl
    · have E : Hid ((Ex.mk 0 n b t kids).tx = Lib.itoa n) := by show _ = _; simp [Ex.tx]
      clear hx hks ih hkid TL hok
      go_enter Tryd.func31, Tryd.ntmps31
      go_wp2_with fail
      refine (spec_dec n _ (by omega) (by omega)).mono ?_
      rintro e1 w1 ⟨rfl, rfl⟩
      go_wp2
      go_ret
      exact ⟨ret_str (by rw [E.out]), (Below.refl _ _).alloc (Nat.le_refl _) _⟩
    · have E : Hid ((Ex.mk 1 n b t kids).tx = 118 :: Lib.itoa n) := by show _ = _; simp [Ex.tx]
      have l1 := itoa_len (n := n) (by omega) (by omega)
      clear hx hks ih hkid TL hok
      go_enter Tryd.func31, Tryd.ntmps31
      go_wp2_with fail
      refine (spec_dec n _ (by omega) (by omega)).mono ?_
      rintro e1 w1 ⟨rfl, rfl⟩
      go_wp2
      go_ret
      exact ⟨ret_str (mk_of (by rw [E.out]; simp)), (Below.refl _ _).alloc (Nat.le_refl _) _⟩
    · obtain ⟨g, o, k', n', bs', t', kids', ka, kc, rfl, _, hg, he, p0, p1, p2, p3, p4, hx'⟩ := hks.get 0 (by omega)
      have hmem : kids[0] ∈ kids := List.getElem_mem (by omega)
      have E : Hid ((Ex.mk 2 n b t kids).tx = memL n b ++ ([91] : List UInt8) ++ (Ex.mk k' n' bs' t' kids').tx ++ ([93] : List UInt8)) := by
        show _ = _
        have := exsTx_at kids 0 (by omega)
        rw [he] at this
        rw [Ex.tx, this]; simp
      have len := TL _ hmem
      have ksz := sz_kid hmem
      have IHk := ih _ hmem
      have okk := hkid _ hmem
      rw [he] at IHk okk len ksz
      have hlen : (Ex.mk k' n' bs' t' kids').tx.length ≤ 60000000 := by omega
      obtain ⟨s2, hs2⟩ : ∃ s2 : ByteArray, ⟨(Ex.mk k' n' bs' t' kids').tx.toArray⟩ = s2 := ⟨_, rfl⟩
      obtain ⟨s1, hs1⟩ : ∃ s1 : ByteArray, ⟨(memL n b).toArray⟩ = s1 := ⟨_, rfl⟩
      have b64 : In64 b := ⟨by omega, by omega⟩
      have n64 : In64 n := ⟨by omega, by omega⟩
      have MC : Hid (∀ W, Calls Tryd.prog 39 #[.int .i64 n, .int .i64 b] W fun e w' => e = .returned (.string s1) ∧ w' = W) := fun W => by rw [← hs1]; exact l02Mem_any n b n64 b64 W
      have KC : Hid (∀ W, Below w.heap.size w W → Calls Tryd.prog 31 #[.agg #[.int .i64 k', .int .i64 n', .int .i64 bs', .string t', .slice ka kids'.length kc]] W fun en w' => en = .returned (.string s2) ∧ Below W.heap.size W w') := fun W hW => by
        rw [← hs2]; exact IHk W B _ R V _ (hx'.stays hW) hR hV okk (by omega)
      have z1 : s1.size ≤ 45 := by rw [(lit_of hs1).2]; exact memL_len n64 b64
      have z2 : s2.size ≤ 60000000 := by rw [(lit_of hs2).2]; exact hlen
      have n1 : ¬ 9223372036854775807 < s1.size + 1 := by omega
      have n2 : ¬ 9223372036854775807 < s1.size + 1 + s2.size := by omega
      have n3 : ¬ 9223372036854775807 < s1.size + 1 + s2.size + 1 := by omega
      have S1 := hideP (lit_of hs1).1
      have S2 := hideP (lit_of hs2).1
      obtain ⟨W, hW⟩ : ∃ W, w.alloc (.cells #[.int .i64 2, .int .i64 n, .int .i64 b, .string t, .slice (some ⟨g, o, none⟩) 1 cap] 41) = W := ⟨_, rfl⟩
      have al : Below w.heap.size w W := by rw [← hW]; exact (Below.refl w.heap.size w).alloc (Nat.le_refl _) _
      have bx : W.heap[w.heap.size]? = some (.cells #[.int .i64 2, .int .i64 n, .int .i64 b, .string t, .slice (some ⟨g, o, none⟩) 1 cap] 41) := by rw [← hW]; exact blk_new _ _
      have q0 := (al.cell (p := ⟨g, _, none⟩) hg).trans p0
      have q1 := (al.cell (p := ⟨g, _, none⟩) hg).trans p1
      have q2 := (al.cell (p := ⟨g, _, none⟩) hg).trans p2
      have q3 := (al.cell (p := ⟨g, _, none⟩) hg).trans p3
      have q4 := (al.cell (p := ⟨g, _, none⟩) hg).trans p4
      have c1 := (cells_of bx).1 1
      have c2 := (cells_of bx).1 2
      have c4 := (cells_of bx).1 4
      simp at q0 q1 q2 q3 q4 c1 c2 c4
      have hgW : g < W.heap.size := Nat.lt_of_lt_of_le hg al.size
      have hbW : w.heap.size < W.heap.size := (Array.getElem?_eq_some_iff.1 bx).1
      have SK : Hid (∀ W', Below W.heap.size W W' → W'.cell? ⟨w.heap.size, 1, none⟩ = some (.int .i64 n) ∧ W'.cell? ⟨w.heap.size, 2, none⟩ = some (.int .i64 b) ∧ W'.cell? ⟨w.heap.size, 4, none⟩ = some (.slice (some ⟨g, o, none⟩) 1 cap) ∧ W'.cell? ⟨g, o, none⟩ = some (.int .i64 k') ∧ W'.cell? ⟨g, o + 1, none⟩ = some (.int .i64 n') ∧ W'.cell? ⟨g, o + 2, none⟩ = some (.int .i64 bs') ∧ W'.cell? ⟨g, o + 3, none⟩ = some (.string t') ∧ W'.cell? ⟨g, o + 4, none⟩ = some (.slice ka kids'.length kc)) := fun W' h =>
        ⟨(h.cell (p := ⟨w.heap.size, 1, none⟩) hbW).trans c1, (h.cell (p := ⟨w.heap.size, 2, none⟩) hbW).trans c2, (h.cell (p := ⟨w.heap.size, 4, none⟩) hbW).trans c4, (h.cell (p := ⟨g, _, none⟩) hgW).trans q0, (h.cell (p := ⟨g, _, none⟩) hgW).trans q1, (h.cell (p := ⟨g, _, none⟩) hgW).trans q2, (h.cell (p := ⟨g, _, none⟩) hgW).trans q3, (h.cell (p := ⟨g, _, none⟩) hgW).trans q4⟩
      have hAL := hideP al
      rw [h3]
      have H3 := hideP h3
      have HWe := hideP hW
      clear hW hx hks ih hkid TL hok hs1 hs2 he hx' IHk okk len ksz hlen hmem b64 n64 hsz p0 p1 p2 p3 p4 al bx h3 hR hV r0 v0 h0 h1 h2 q0 q1 q2 q3 q4 c1 c2 c4 hg ht hm hgW hbW
      go_enter Tryd.func31, Tryd.ntmps31
      go_upto_region 7 with fail
      rw [HWe.out]
      clear HWe
      go_region_held3 (fun W' => W'.cell? ⟨w.heap.size, 1, none⟩ = some (.int .i64 n) ∧ W'.cell? ⟨w.heap.size, 2, none⟩ = some (.int .i64 b) ∧ W'.cell? ⟨w.heap.size, 4, none⟩ = some (.slice (some ⟨g, o, none⟩) 1 cap) ∧ W'.cell? ⟨g, o, none⟩ = some (.int .i64 k') ∧ W'.cell? ⟨g, o + 1, none⟩ = some (.int .i64 n') ∧ W'.cell? ⟨g, o + 2, none⟩ = some (.int .i64 bs') ∧ W'.cell? ⟨g, o + 3, none⟩ = some (.string t') ∧ W'.cell? ⟨g, o + 4, none⟩ = some (.slice ka kids'.length kc)) (first | exact SK.out _ (Below.refl _ _).drew | exact SK.out _ HB2.out) (first
        | (go_at_call 39; refine (MC.out _).mono ?_; rintro e1 w1 ⟨rfl, rfl⟩)
        | (go_at_call 31; refine (KC.out _ hAL.out.drew).mono ?_; rintro e2 w2 ⟨rfl, bel2⟩; have HB2 := hideP ((Below.refl W.heap.size W).drew.trans (bel2.mono (Nat.le_refl _))); clear bel2))
      all_goals
        go_wp2
        go_ret
        exact ⟨ret_str (mk_of (by rw [E.out]; simp [S1.out, S2.out])), hAL.out.trans (HB2.out.mono hAL.out.size)⟩
    · obtain ⟨g, o, k1, n1, bs1, t1, kids1, ka1, kc1, rfl, _, hg, he1, p0, p1, p2, p3, p4, hx1⟩ := hks.get 0 (by omega)
      obtain ⟨g', o', k2, n2, bs2, t2, kids2, ka2, kc2, ha', _, hg', he2, r0', r1, r2, r3, r4, hx2⟩ := hks.get 1 (by omega)
      cases ha'
      have hm1 : kids[0] ∈ kids := List.getElem_mem (by omega)
      have hm2 : kids[1] ∈ kids := List.getElem_mem (by omega)
      have E : Hid ((Ex.mk 3 n b t kids).tx = ([40] : List UInt8) ++ (Ex.mk k1 n1 bs1 t1 kids1).tx ++ ([32] : List UInt8) ++ t.data.toList ++ ([32] : List UInt8) ++ (Ex.mk k2 n2 bs2 t2 kids2).tx ++ ([41] : List UInt8)) := by
        show _ = _
        have e1 := exsTx_at kids 0 (by omega)
        have e2 := exsTx_at kids 1 (by omega)
        rw [he1] at e1
        rw [he2] at e2
        rw [Ex.tx, e1, e2]; simp
      have IH1 := ih _ hm1
      have IH2 := ih _ hm2
      have ok1 := hkid _ hm1
      have ok2 := hkid _ hm2
      have len1 := TL _ hm1
      have len2 := TL _ hm2
      have sz1 := sz_kid hm1
      have sz2 := sz_kid hm2
      rw [he1] at IH1 ok1 len1 sz1
      rw [he2] at IH2 ok2 len2 sz2
      obtain ⟨s1, hs1⟩ : ∃ s1 : ByteArray, ⟨(Ex.mk k1 n1 bs1 t1 kids1).tx.toArray⟩ = s1 := ⟨_, rfl⟩
      obtain ⟨s2, hs2⟩ : ∃ s2 : ByteArray, ⟨(Ex.mk k2 n2 bs2 t2 kids2).tx.toArray⟩ = s2 := ⟨_, rfl⟩
      have KC1 : Hid (∀ W, Below w.heap.size w W → Calls Tryd.prog 31 #[.agg #[.int .i64 k1, .int .i64 n1, .int .i64 bs1, .string t1, .slice ka1 kids1.length kc1]] W fun en w' => en = .returned (.string s1) ∧ Below W.heap.size W w') := fun W hW => by
        rw [← hs1]; exact IH1 W B _ R V _ (hx1.stays hW) hR hV ok1 (by omega)
      have KC2 : Hid (∀ W, Below w.heap.size w W → Calls Tryd.prog 31 #[.agg #[.int .i64 k2, .int .i64 n2, .int .i64 bs2, .string t2, .slice ka2 kids2.length kc2]] W fun en w' => en = .returned (.string s2) ∧ Below W.heap.size W w') := fun W hW => by
        rw [← hs2]; exact IH2 W B _ R V _ (hx2.stays hW) hR hV ok2 (by omega)
      have z1 : s1.size ≤ 60000000 := by rw [(lit_of hs1).2]; omega
      have z2 : s2.size ≤ 60000000 := by rw [(lit_of hs2).2]; omega
      have zt : t.size ≤ 1048576 := by omega
      have m1 : ¬ 9223372036854775807 < 1 + s1.size := by omega
      have m2 : ¬ 9223372036854775807 < 1 + s1.size + 1 := by omega
      have m3 : ¬ 9223372036854775807 < 1 + s1.size + 1 + t.size := by omega
      have m4 : ¬ 9223372036854775807 < 1 + s1.size + 1 + t.size + 1 := by omega
      have m5 : ¬ 9223372036854775807 < 1 + s1.size + 1 + t.size + 1 + s2.size := by omega
      have m6 : ¬ 9223372036854775807 < 1 + s1.size + 1 + t.size + 1 + s2.size + 1 := by omega
      have S1 := hideP (lit_of hs1).1
      have S2 := hideP (lit_of hs2).1
      obtain ⟨W, hW⟩ : ∃ W, w.alloc (.cells #[.int .i64 3, .int .i64 n, .int .i64 b, .string t, .slice (some ⟨g, o, none⟩) 2 cap] 41) = W := ⟨_, rfl⟩
      have al : Below w.heap.size w W := by rw [← hW]; exact (Below.refl w.heap.size w).alloc (Nat.le_refl _) _
      have bx : W.heap[w.heap.size]? = some (.cells #[.int .i64 3, .int .i64 n, .int .i64 b, .string t, .slice (some ⟨g, o, none⟩) 2 cap] 41) := by rw [← hW]; exact blk_new _ _
      have q00 := (al.cell (p := ⟨g, _, none⟩) hg).trans p0
      have q01 := (al.cell (p := ⟨g, _, none⟩) hg).trans p1
      have q02 := (al.cell (p := ⟨g, _, none⟩) hg).trans p2
      have q03 := (al.cell (p := ⟨g, _, none⟩) hg).trans p3
      have q04 := (al.cell (p := ⟨g, _, none⟩) hg).trans p4
      have q10 := (al.cell (p := ⟨g, _, none⟩) hg).trans r0'
      have q11 := (al.cell (p := ⟨g, _, none⟩) hg).trans r1
      have q12 := (al.cell (p := ⟨g, _, none⟩) hg).trans r2
      have q13 := (al.cell (p := ⟨g, _, none⟩) hg).trans r3
      have q14 := (al.cell (p := ⟨g, _, none⟩) hg).trans r4
      have c3 := (cells_of bx).1 3
      have c4 := (cells_of bx).1 4
      simp at q00 q01 q02 q03 q04 q10 q11 q12 q13 q14 c3 c4
      have hgW : g < W.heap.size := Nat.lt_of_lt_of_le hg al.size
      have hbW : w.heap.size < W.heap.size := (Array.getElem?_eq_some_iff.1 bx).1
      have SK : Hid (∀ W', Below W.heap.size W W' → W'.cell? ⟨w.heap.size, 3, none⟩ = some (.string t) ∧ W'.cell? ⟨w.heap.size, 4, none⟩ = some (.slice (some ⟨g, o, none⟩) 2 cap) ∧ W'.cell? ⟨g, o, none⟩ = some (.int .i64 k1) ∧ W'.cell? ⟨g, o + 1, none⟩ = some (.int .i64 n1) ∧ W'.cell? ⟨g, o + 2, none⟩ = some (.int .i64 bs1) ∧ W'.cell? ⟨g, o + 3, none⟩ = some (.string t1) ∧ W'.cell? ⟨g, o + 4, none⟩ = some (.slice ka1 kids1.length kc1) ∧ W'.cell? ⟨g, o + 5, none⟩ = some (.int .i64 k2) ∧ W'.cell? ⟨g, o + 6, none⟩ = some (.int .i64 n2) ∧ W'.cell? ⟨g, o + 7, none⟩ = some (.int .i64 bs2) ∧ W'.cell? ⟨g, o + 8, none⟩ = some (.string t2) ∧ W'.cell? ⟨g, o + 9, none⟩ = some (.slice ka2 kids2.length kc2)) := fun W' h =>
        ⟨(h.cell (p := ⟨w.heap.size, 3, none⟩) hbW).trans c3, (h.cell (p := ⟨w.heap.size, 4, none⟩) hbW).trans c4, (h.cell (p := ⟨g, _, none⟩) hgW).trans q00, (h.cell (p := ⟨g, _, none⟩) hgW).trans q01, (h.cell (p := ⟨g, _, none⟩) hgW).trans q02, (h.cell (p := ⟨g, _, none⟩) hgW).trans q03, (h.cell (p := ⟨g, _, none⟩) hgW).trans q04, (h.cell (p := ⟨g, _, none⟩) hgW).trans q10, (h.cell (p := ⟨g, _, none⟩) hgW).trans q11, (h.cell (p := ⟨g, _, none⟩) hgW).trans q12, (h.cell (p := ⟨g, _, none⟩) hgW).trans q13, (h.cell (p := ⟨g, _, none⟩) hgW).trans q14⟩
      have hAL := hideP al
      rw [h3]
      have H3 := hideP h3
      have HWe := hideP hW
      clear hW hx hks ih hkid TL hok hs1 hs2 he1 he2 hx1 hx2 IH1 IH2 ok1 ok2 len1 len2 sz1 sz2 hm1 hm2 hsz p0 p1 p2 p3 p4 r0' r1 r2 r3 r4 al bx h3 hR hV r0 v0 q00 q01 q02 q03 q04 q10 q11 q12 q13 q14 c3 c4 hg hg' ht hm hgW hbW
      go_enter Tryd.func31, Tryd.ntmps31
      go_upto_region 9 with fail
      rw [HWe.out]
      clear HWe
      go_region_held3 (fun W' => W'.cell? ⟨w.heap.size, 3, none⟩ = some (.string t) ∧ W'.cell? ⟨w.heap.size, 4, none⟩ = some (.slice (some ⟨g, o, none⟩) 2 cap) ∧ W'.cell? ⟨g, o, none⟩ = some (.int .i64 k1) ∧ W'.cell? ⟨g, o + 1, none⟩ = some (.int .i64 n1) ∧ W'.cell? ⟨g, o + 2, none⟩ = some (.int .i64 bs1) ∧ W'.cell? ⟨g, o + 3, none⟩ = some (.string t1) ∧ W'.cell? ⟨g, o + 4, none⟩ = some (.slice ka1 kids1.length kc1) ∧ W'.cell? ⟨g, o + 5, none⟩ = some (.int .i64 k2) ∧ W'.cell? ⟨g, o + 6, none⟩ = some (.int .i64 n2) ∧ W'.cell? ⟨g, o + 7, none⟩ = some (.int .i64 bs2) ∧ W'.cell? ⟨g, o + 8, none⟩ = some (.string t2) ∧ W'.cell? ⟨g, o + 9, none⟩ = some (.slice ka2 kids2.length kc2)) (first | exact SK.out _ (Below.refl _ _).drew | exact SK.out _ HB3.out | exact SK.out _ HB2.out) (first
        | (go_at_call 31; refine (KC1.out _ hAL.out.drew).mono ?_; rintro e2 w2 ⟨rfl, bel2⟩; have HB2 := hideP ((Below.refl W.heap.size W).drew.trans (bel2.mono (Nat.le_refl _))); clear bel2 KC1)
        | (go_at_call 31; refine (KC2.out _ (hAL.out.trans (HB2.out.mono hAL.out.size))).mono ?_; rintro e3 w3 ⟨rfl, bel3⟩; have HB3 := hideP (HB2.out.trans (bel3.mono HB2.out.size)); clear bel3 KC2))
      all_goals
        go_wp2
        go_ret
        exact ⟨ret_str (mk_of (by rw [E.out]; simp [S1.out, S2.out])), hAL.out.trans (HB3.out.mono hAL.out.size)⟩
    · have E : Hid ((Ex.mk 4 n b t kids).tx = [103, 101, 116]) := by show _ = _; simp [Ex.tx]
      clear hx hks ih hkid TL hok
      go_enter Tryd.func31, Tryd.ntmps31
      go_wp2
      go_ret
      exact ⟨ret_str (by rw [E.out]), (Below.refl _ _).alloc (Nat.le_refl _) _⟩
end Go.Proofs.YtfoaplihindeaagDoor
