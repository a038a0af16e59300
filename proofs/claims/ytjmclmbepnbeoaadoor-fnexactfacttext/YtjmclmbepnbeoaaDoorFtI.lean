/- The contract of impl.FactText. -/
import Derived.Test.YtjmclmbepnbeoaaDoorFtS
import Derived.Test.YtjmclmbepnbeoaaDoorImplDec
import Derived.Test.YtjmclmbepnbeoaaDoorOwnG
import Derived.Test.YtjmclmbepnbeoaaDoorShelfJ
import Derived.Deep.RegionHeld3
namespace Go.Proofs.YtjmclmbepnbeoaaDoor
open Go.ChangeShapes Go.WideShapes Go.ChangeAt Go.RowKit
def StE : Elem ByteArray := { T := 9, ST := 34, sz := 1, bys := 16, z := .string ⟨#[]⟩, cs := fun x => [.string x] }
theorem StOk : StE.Ok where
  und := Tryd.underlying34
  info := by kernel_rfl
  zs := rfl
  pos := by decide
  few := by decide
  len := fun _ => rfl
  one := fun x u hu => by simp [StE] at hu; rcases hu with rfl; rfl
abbrev TabF (w : World) : Prop := Lib.TabIs Tryd.prog w "internal/strconv.uint64pow10" .u64 Lib.pow10Tab
theorem decF (n : Int) (w : World) (h : I64 n) (ht : TabF w) :
    Calls Tryd.prog 12 #[.int .i64 n] w fun e w' => ∃ s : ByteArray, e = .returned (.string s) ∧ Hid (s.data.toList = Lib.itoa n) ∧ s.size ≤ 21 ∧ Below w.heap.size w w' :=
  (impl_dec n w h.1 h.2 ht).mono fun e w' ⟨he, hw⟩ => ⟨_, he, by show _ = _; simp, by have := itoa_len h.1 h.2; simpa [ByteArray.size] using this, hw⟩
theorem slotF (n : Int) (w : World) (h : I64 n) (ht : TabF w) :
    Calls Tryd.prog 11 #[.int .i64 n] w fun e w' => ∃ s : ByteArray, e = .returned (.string s) ∧ Hid (s.data.toList = 115 :: Lib.itoa n) ∧ s.size ≤ 22 ∧ Below w.heap.size w w' := by
  go_enter Tryd.func11, Tryd.ntmps11
  go_wp2_with fail
  refine (decF n _ h ht).mono ?_
  rintro e1 w1 ⟨s, rfl, S, z, bel⟩
  have BL := hideP bel
  clear bel
  go_wp2
  go_ret
  exact ⟨_, rfl, by show _ = _; simp [S.out], by rw [ByteArray.size_append]; show 1 + s.size ≤ 22; omega, BL.out⟩
theorem hltF {w : World} {b : Nat} {o : Obj} (h : w.heap[b]? = some o) : b < w.heap.size := (Array.getElem?_eq_some_iff.1 h).1
theorem newF (w : World) (cs : Array Value) (T : TypeId) : (w.alloc (.cells cs T)).heap[w.heap.size]? = some (.cells cs T (0, 0)) := by show (w.heap.push _)[w.heap.size]? = _; exact Array.getElem?_push_size
/-- Between two rounds: the texts of the first k. -/
structure FtAt (w : World) (xs : List Fct) (k : Nat) (v : Value) (qs : List ByteArray) (W : World) : Prop where
  own : OwnE StE W w.heap.size v qs
  tx : qs.map (fun b : ByteArray => b.data.toList) = (xs.take k).map fcL
  bel : Below w.heap.size w W
theorem FtAt.stays {w W W' : World} {xs : List Fct} {k : Nat} {v : Value} {qs : List ByteArray} (h : FtAt w xs k v qs W) (b : Below W.heap.size W W') : FtAt w xs k v qs W' := ⟨h.own.stays b, h.tx, below_trans h.bel b⟩
theorem FtAt.len {w W : World} {xs : List Fct} {k : Nat} {v : Value} {qs : List ByteArray} (h : FtAt w xs k v qs W) (hk : k ≤ xs.length) : qs.length = k := by
  have := congrArg List.length h.tx
  rw [List.length_map, List.length_map, List.length_take] at this
  omega
theorem FtAt.app {w W W' : World} {xs : List Fct} {k : Nat} {v v' : Value} {qs : List ByteArray} {s : ByteArray} (h : FtAt w xs k v qs W) (hk : k < xs.length) (ho : OwnE StE W' w.heap.size v' (qs ++ [s])) (hg : W.grownBy W' v.ownBlock) (hs : s.data.toList = fcL xs[k]) : FtAt w xs (k + 1) v' (qs ++ [s]) W' :=
  ⟨ho, by rw [List.take_succ_eq_append_getElem hk, List.map_append, List.map_append, h.tx, List.map_singleton, List.map_singleton, hs], h.bel.grown hg h.bel.size (fun b hb => (h.own.low b hb).1)⟩
set_option maxRecDepth 100000 in
set_option maxHeartbeats 8000000 in
theorem impl_factText (xs : List Fct) (w : World) (B : Nat) (a : Option Addr) (cap : Nat) (h : SlIs FctIs 2 w B a xs) (hl : xs.length ≤ 1048576) (ht : TabF w) :
    Calls Tryd.prog 7 #[.slice a xs.length cap] w fun e w' => e = .returned (.string ⟨(ftL xs).toArray⟩) ∧ Below w.heap.size w w' := by
  have H := hideP h
  have HT := hideP ht
  have FL := hideP (fcUp_len (fct_wf h) xs.length (Nat.le_refl _))
  obtain ⟨N, hN⟩ : ∃ N, xs.length = N := ⟨_, rfl⟩
  have HN := hideP hN
  rw [hN] at hl FL ⊢
  have I0 : Hid (FtAt w xs 0 (.slice (some ⟨w.heap.size, 0, none⟩) 0 0) [] (w.alloc (.cells #[] 9))) := ⟨own_nil StOk w w.heap.size rfl, rfl, (Below.refl _ _).alloc (Nat.le_refl _) _⟩
  clear h hN ht
  go_enter Tryd.func7, Tryd.ntmps7
  go_wp2
  go_loopg [3, 9] N (fun gk v ix wr => ∃ (k : Nat) (qs : List ByteArray), gk + k = N ∧ ix = .int .i64 k ∧ Hid (FtAt w xs k v qs wr))
  case atStart => exact ⟨0, [], by simp, rfl, I0.out⟩
  case round =>
    obtain ⟨k, qs, hk, rfl, hI⟩ := hrel
    clear I0
    by_cases hlt : k < N
    · have hkx : k < xs.length := by rw [HN.out]; exact hlt
      obtain ⟨b', o', sl, vl, rfl, _, hbl, he, k0, k1, hx⟩ := Fct_get (H.out.stays FctKeeps hI.out.bel) k hkx
      obtain ⟨_, i1, i2⟩ := hx
      have SL : Hid (∀ W, Below w.heap.size w W → Calls Tryd.prog 11 #[.int .i64 sl] W fun e w' => ∃ s : ByteArray, e = .returned (.string s) ∧ Hid (s.data.toList = 115 :: Lib.itoa sl) ∧ s.size ≤ 22 ∧ Below W.heap.size W w') := fun W hW => slotF sl W i1 (tab_below HT.out hW)
      have DV : Hid (∀ W, Below w.heap.size w W → Calls Tryd.prog 12 #[.int .i64 vl] W fun e w' => ∃ s : ByteArray, e = .returned (.string s) ∧ Hid (s.data.toList = Lib.itoa vl) ∧ s.size ≤ 21 ∧ Below W.heap.size W w') := fun W hW => decF vl W i2 (tab_below HT.out hW)
      have HE := hideP he
      have hql := hI.out.len (Nat.le_of_lt hkx)
      have hq8 : Hid (qs.length + 1 ≤ 8000000) := by show _ ≤ _; omega
      obtain ⟨gv, cv, rfl, _⟩ := id hI.out.own
      have al := (Below.refl wr.heap.size wr).alloc (Nat.le_refl _) (.cells #[.int .i64 sl, .int .i64 vl] 31)
      have I1 := hideP (hI.out.stays al)
      have X5 := hideP (newF wr #[.int .i64 sl, .int .i64 vl] 31)
      have ix1 : (k : Int) < (N : Int) := by omega
      clear he i1 i2 al hI hql
      go_upto_region 5 with fail
      obtain ⟨w1, hw1⟩ : ∃ w1, wr.alloc (.cells #[.int .i64 sl, .int .i64 vl] 31) = w1 := ⟨_, rfl⟩
      obtain ⟨b5, hb5⟩ : ∃ b5, wr.heap.size = b5 := ⟨_, rfl⟩
      rw [hw1] at I1 X5 ⊢
      rw [hb5] at X5 ⊢
      clear hw1 hb5 k0 k1
      have SK : Hid (∀ W' : World, Below w1.heap.size w1 W' → W'.cell? ⟨b5, 0, none⟩ = some (.int .i64 sl) ∧ W'.cell? ⟨b5, 1, none⟩ = some (.int .i64 vl)) := fun W' hb => by
        have f := (cells_of ((hb.block _ (hltF X5.out)).trans X5.out)).1
        exact ⟨f 0, f 1⟩
      have SG : Hid (∀ (Wa W' : World), Below w1.heap.size w1 Wa → Wa.grownBy W' (some gv) → W'.cell? ⟨b5, 0, none⟩ = some (.int .i64 sl) ∧ W'.cell? ⟨b5, 1, none⟩ = some (.int .i64 vl)) := fun Wa W' hb hg => by
        have hne : b5 ≠ gv := fun e => by
          obtain ⟨g', c', cur, hv, _, hh, _⟩ := I1.out.own.parts StOk
          injection hv with e1
          injection e1 with e1
          injection e1 with e1
          rw [← e1, ← e, X5.out] at hh
          injection hh with hh
          injection hh with _ e2
          exact absurd e2 (by decide)
        have f := (cells_of ((hg.block b5 (Nat.lt_of_lt_of_le (hltF X5.out) hb.size) (fun e => hne (by injection e))).trans ((hb.block _ (hltF X5.out)).trans X5.out))).1
        exact ⟨f 0, f 1⟩
      go_region_held3 (fun W' => W'.cell? ⟨b5, 0, none⟩ = some (.int .i64 sl) ∧ W'.cell? ⟨b5, 1, none⟩ = some (.int .i64 vl)) (first | with_reducible exact SG.out _ _ AD.out G9.out | with_reducible exact SK.out _ AD.out | with_reducible exact SK.out _ F7.out | with_reducible exact SK.out _ F6.out | with_reducible exact SK.out _ (Below.refl _ _).drew) (first
        | (go_at_call 11; refine (SL.out _ (below_trans I1.out.bel (Below.refl _ _).drew)).mono ?_; rintro e6 w6 ⟨s6, rfl, S6, z6, b6⟩; have F6 := hideP ((Below.refl w1.heap.size w1).drew.trans (b6.mono (Nat.le_refl _))); have n1 : ¬ 9223372036854775807 < s6.size + 1 := (by omega); clear b6)
        | (go_at_call 12; refine (DV.out _ (below_trans I1.out.bel F6.out)).mono ?_; rintro e7 w7 ⟨s7, rfl, S7, z7, b7⟩; have F7 := hideP (below_trans F6.out b7); have n2 : ¬ 9223372036854775807 < s6.size + 1 + s7.size := (by omega); clear b7; have AD := hideP (below_trans F7.out ((Below.refl w7.heap.size w7).alloc (Nat.le_refl _) (.cells #[.string (s6 ++ ⟨#[61]⟩ ++ s7)] 9))); have OA := hideP (I1.out.stays AD.out); have CQ : Hid (∀ r, r < StE.sz → (w7.alloc (.cells #[.string (s6 ++ ⟨#[61]⟩ ++ s7)] 9)).cell? ⟨w7.heap.size, 0 + r, none⟩ = (StE.cs (s6 ++ ⟨#[61]⟩ ++ s7))[r]?) := (fun r _ => by have := (cells_of (newF w7 #[.string (s6 ++ ⟨#[61]⟩ ++ s7)] 9)).1 r; rw [Nat.zero_add, this]; simp [StE]); have SZ : Hid (w.heap.size ≤ (w7.alloc (.cells #[.string (s6 ++ ⟨#[61]⟩ ++ s7)] 9)).heap.size) := OA.out.bel.size)
        | (refine step_appE StOk _ rfl _ _ rfl w.heap.size (.slice (some ⟨gv, 0, none⟩) qs.length cv) qs (s6 ++ ⟨#[61]⟩ ++ s7) w7.heap.size 0 1 rfl rfl OA.out.own CQ.out hq8.out SZ.out ?_; intro v9 w9 o9 grow9 loc9; replace grow9 : World.grownBy _ w9 (some gv) := grow9; have G9 := hideP grow9; have I9 := hideP (OA.out.app hkx o9 grow9 (by rw [HE.out]; simp [S6.out, S7.out, fcL])); obtain ⟨g9, c9, rfl, _⟩ := id o9; clear o9 grow9 loc9))
      clear SK SG SL DV F6 F7 AD OA CQ G9
      go_wp2
      go_roundg (N - (k + 1))
      case rel => exact ⟨k + 1, _, by omega, by go_num, by have i9 := I9.out; simp only [List.length_append, List.length_singleton] at i9 ⊢; exact i9⟩
      case measure => omega
    · have hkn : k = N := by omega
      subst hkn
      have hql := hI.out.len (by rw [HN.out]; exact Nat.le_refl _)
      obtain ⟨gv, cv, rfl, _⟩ := id hI.out.own
      by_cases hz : k = 0
      · have E : Hid (ftL xs = [45]) := by show _ = _; unfold ftL; rw [if_pos (List.length_eq_zero_iff.1 (by rw [HN.out]; exact hz))]
        have hq0 : qs.length = 0 := by omega
        clear hql
        rw [hq0]
        rw [hq0] at hI
        clear hq0
        go_wp2
        go_ret
        exact ⟨ret_str (by rw [E.out]), hI.out.bel⟩
      · have E : Hid (ftL xs = fcUp xs k) := by
          show _ = _
          unfold ftL
          rw [if_neg (fun e => hz (by rw [← HN.out, e]; rfl)), HN.out]
        have JT : Hid (Lib.join (qs.map (fun b : ByteArray => b.data.toList)) [32] = fcUp xs k) := by show _ = _; rw [hI.out.tx]; rfl
        have hc6 : Hid (∀ (jj : Nat) x, qs[jj]? = some x → wr.cell? ⟨gv, 0 + jj, none⟩ = some (.string x)) := fun jj x hx => by
          obtain ⟨hj, e⟩ := List.getElem?_eq_some_iff.1 hx
          have := hI.out.own.at StOk jj hj 0 (by decide)
          rw [e] at this
          simpa [StE] using this
        have hgw := hI.out.own.low gv rfl
        have hcv : Hid (qs.length ≤ cv) := by
          obtain ⟨g', c', cur, hv, _, _, hc, _⟩ := hI.out.own.parts StOk
          injection hv with _ _ e3
          rw [e3]
          exact hc
        have JC := hideP (Tryd.strings_Join gv 0 cv qs ⟨#[32]⟩ wr hc6.out hgw.2 (by omega) hcv.out (by have := JT.out; show (Lib.join _ [32]).length ≤ _; rw [this]; have := FL.out; omega))
        have hzb : ((qs.length : Int) == 0) = false := by
          have : ¬ (qs.length : Int) = 0 := by omega
          simpa using this
        have BE := hideP hI.out.bel
        obtain ⟨n9, hn9⟩ : ∃ n9, qs.length = n9 := ⟨_, rfl⟩
        rw [hn9] at JC hzb ⊢
        clear hql hc6 hcv hI hn9 hgw
        go_wp2_with fail
        refine JC.out.mono ?_
        rintro e7 w7 ⟨rfl, bel7⟩
        have B7 := hideP (below_trans BE.out bel7)
        obtain ⟨s7, hs7⟩ : ∃ s7 : ByteArray, ⟨(Lib.join (qs.map (fun b : ByteArray => b.data.toList)) (⟨#[32]⟩ : ByteArray).data.toList).toArray⟩ = s7 := ⟨_, rfl⟩
        rw [hs7]
        have S7 : Hid (s7.data.toList = fcUp xs k) := by rw [← hs7]; exact JT.out
        clear hs7 bel7 JC
        go_wp2
        go_ret
        exact ⟨ret_str (mk_of (by rw [E.out, S7.out])), B7.out⟩
end Go.Proofs.YtjmclmbepnbeoaaDoor
