/- The contracts of szExp, szExpS, szStmt, szStmtS, szIntS, szProgram: what is left of a number when the thing is taken off, or -1. -/
import Derived.Test.YtdkdimklacblaahRows
import Derived.Test.YtdkdimklacblaahPlain
import Derived.Test.YtdkdimklacblaahTree
import Derived.WalkKit
import Derived.ProofKit
import Derived.OpenShut
import Derived.ShutString
import Derived.WalkSpells
import Derived.WalkLawsBesides
namespace Go.Proofs.Ytdkdimklacblaah
open Go.ChangeShapes Go.WideShapes Go.ChangeAt Go.RowKit

/-- What is left of L behind s. -/
def szR (s L : Nat) : Int := if s ≤ L then ((L - s : Nat) : Int) else -1
theorem szR_pos {s L : Nat} (h : s ≤ L) : szR s L = ((L - s : Nat) : Int) := if_pos h
theorem szR_neg {s L : Nat} (h : L < s) : szR s L = -1 := if_neg (by omega)
theorem maxLen_lt : maxLen ≤ 9223372036854775807 := by unfold maxLen; decide

def SzEx (e : Ex) : Prop := ∀ (w : World) (B : Nat) (v : Array Value) (L : Nat), ExIs w B v e → L ≤ 1048576 →
  Calls Try.prog 13 #[.agg v, .int .i64 L] w fun en w' => en = .returned (.int .i64 (szR e.sz L)) ∧ Below w.heap.size w w'

set_option maxHeartbeats 1000000 in
theorem szExpS_of (es : List Ex) (ih : ∀ e ∈ es, SzEx e) (w : World) (B : Nat) (a : Option Addr) (cap L : Nat) (h : ExsIs w B a es) (hL : L ≤ 1048576) :
    Calls Try.prog 38 #[.slice a es.length cap, .int .i64 L] w fun en w' => en = .returned (.int .i64 (szR (exsSz es) L)) ∧ Below w.heap.size w w' := by
  have hm := maxLen_lt
  have hl := h.1
  by_cases h0 : L < es.length
  · have e1 : szR (exsSz es) L = -1 := szR_neg (by unfold exsSz; omega)
    rw [e1]
    clear e1
    go_enter Try.func38, Try.ntmps38
    go_wp2
    go_ret
    exact ⟨rfl, Below.refl _ _⟩
  · have H := hideP h
    have IH := hideP ih
    clear h ih
    go_enter Try.func38, Try.ntmps38
    go_wp2
    go_loopw [1, 5] (fun l i wr => ∃ j M : Nat, j ≤ es.length ∧ i = .int .i64 j ∧ l = .int .i64 M ∧ Hid (M + (es.length + exsSum (es.take j)) = L) ∧ Below w.heap.size w wr) (fun _ i _ => es.length - (intOf i).toNat)
    case atStart => exact ⟨0, L - es.length, Nat.zero_le _, rfl, by go_num, show _ = _ by simp [exsSum]; omega, Below.refl _ _⟩
    case round =>
      obtain ⟨j, M, hj, rfl, rfl, hM, bel⟩ := hrel
      by_cases hlt : j < es.length
      · obtain ⟨b, o, k, n, bs, t, kids, ka, kc, rfl, _, hb, he, c0, c1, c2, c3, c4, hx⟩ := (H.out.stays bel).get j hlt
        have HE := hideP he
        have HX := hideP hx
        have HB := hideP bel
        have hsz := bel.size
        have hM' := hM.out
        clear he hx bel
        go_wp2_with fail
        refine (IH.out es[j] (List.getElem_mem hlt) _ B _ M (by rw [HE.out]; exact HX.out) (by omega)).mono ?_
        rintro e1 w1 ⟨rfl, bel1⟩
        have hw1 : Hid (Below w.heap.size w w1) := HB.out.trans (bel1.mono hsz)
        have htk := exsSum_take es j hlt
        have hle := exsSum_le es (j + 1)
        clear bel1 c0 c1 c2 c3 c4
        by_cases hs : es[j].sz ≤ M
        · rw [szR_pos hs]
          have HT := hideP htk
          have HS := hideP hs
          clear htk hs hle hM'
          go_wp2
          go_roundw
          case rel => exact ⟨j + 1, M - es[j].sz, by omega, by go_num, rfl, show _ = _ by have h1 := hM.out; have h2 := HT.out; have h3 := HS.out; omega, hw1.out⟩
          case measure => simp [intOf]; omega
        · rw [szR_neg (by omega)]
          have E1 : Hid (szR (exsSz es) L = -1) := szR_neg (by unfold exsSz; omega)
          clear htk hle hM' hs
          go_wp2
          go_ret
          exact ⟨ret_int E1.out.symm, hw1.out⟩
      · have hjn : j = es.length := by omega
        subst hjn
        go_wp2
        go_ret
        have h1 := hM.out
        rw [List.take_length] at h1
        exact ⟨ret_int (by rw [szR_pos (by unfold exsSz; omega)]; unfold exsSz; omega), bel⟩

set_option maxHeartbeats 1000000 in
theorem szExp_any (e : Ex) : SzEx e := by
  induction e using Ex.ind with
  | h k n b t kids ih =>
    intro w B v L hx hL
    obtain ⟨a, cap, rfl, ht, hk⟩ := hx.out
    have hm := maxLen_lt
    rw [Ex.sz_mk]
    by_cases h0 : L < t.size
    · rw [szR_neg (by omega)]
      clear hx hk ih
      go_enter Try.func13, Try.ntmps13
      go_wp2
      go_ret
      exact ⟨rfl, (Below.refl _ _).alloc (Nat.le_refl _) _⟩
    · have HK := hideP hk
      have IH := hideP ih
      clear hx hk ih
      go_enter Try.func13, Try.ntmps13
      go_wp2_with fail
      rw [show (L : Int) - (t.size : Int) = ((L - t.size : Nat) : Int) by omega]
      refine (szExpS_of kids IH.out _ B a cap (L - t.size) (HK.out.stays ((Below.refl _ _).alloc (Nat.le_refl _) _)) (by omega)).mono ?_
      rintro e1 w1 ⟨rfl, bel1⟩
      have hw1 : Hid (Below w.heap.size w w1) := below_new bel1
      clear bel1
      by_cases hs : exsSz kids ≤ L - t.size
      · rw [szR_pos hs]
        have HS := hideP hs
        clear hs
        go_wp2
        go_ret
        exact ⟨ret_int (by have := HS.out; rw [szR_pos (show t.size + exsSz kids ≤ L by omega)]; omega), hw1.out⟩
      · rw [szR_neg (by omega)]
        have E1 : Hid (szR (t.size + exsSz kids) L = -1) := szR_neg (by omega)
        clear hs
        go_wp2
        go_ret
        exact ⟨ret_int E1.out.symm, hw1.out⟩
theorem szExpS_any (es : List Ex) (w : World) (B : Nat) (a : Option Addr) (cap L : Nat) (h : ExsIs w B a es) (hL : L ≤ 1048576) :
    Calls Try.prog 38 #[.slice a es.length cap, .int .i64 L] w fun en w' => en = .returned (.int .i64 (szR (exsSz es) L)) ∧ Below w.heap.size w w' :=
  szExpS_of es (fun e _ => szExp_any e) w B a cap L h hL

def SzSt (e : St) : Prop := ∀ (w : World) (B : Nat) (v : Array Value) (L : Nat), StIs w B v e → L ≤ 1048576 →
  Calls Try.prog 48 #[.agg v, .int .i64 L] w fun en w' => en = .returned (.int .i64 (szR e.sz L)) ∧ Below w.heap.size w w'

set_option maxHeartbeats 1000000 in
theorem szStmtS_of (es : List St) (ih : ∀ e ∈ es, SzSt e) (w : World) (B : Nat) (a : Option Addr) (cap L : Nat) (h : StsIs w B a es) (hL : L ≤ 1048576) :
    Calls Try.prog 30 #[.slice a es.length cap, .int .i64 L] w fun en w' => en = .returned (.int .i64 (szR (stsSz es) L)) ∧ Below w.heap.size w w' := by
  have hm := maxLen_lt
  have hl := h.1
  by_cases h0 : L < es.length
  · have e1 : szR (stsSz es) L = -1 := szR_neg (by unfold stsSz; omega)
    rw [e1]
    clear e1
    go_enter Try.func30, Try.ntmps30
    go_wp2
    go_ret
    exact ⟨rfl, Below.refl _ _⟩
  · have H := hideP h
    have IH := hideP ih
    clear h ih
    go_enter Try.func30, Try.ntmps30
    go_wp2
    go_loopw [1, 5] (fun l i wr => ∃ j M : Nat, j ≤ es.length ∧ i = .int .i64 j ∧ l = .int .i64 M ∧ Hid (M + (es.length + stsSum (es.take j)) = L) ∧ Below w.heap.size w wr) (fun _ i _ => es.length - (intOf i).toNat)
    case atStart => exact ⟨0, L - es.length, Nat.zero_le _, rfl, by go_num, show _ = _ by simp [stsSum]; omega, Below.refl _ _⟩
    case round =>
      obtain ⟨j, M, hj, rfl, rfl, hM, bel⟩ := hrel
      by_cases hlt : j < es.length
      · obtain ⟨b, o, k, n, bs, exps, xs, ys, ea, ec, xa, xc, ya, yc, rfl, _, hb, he, c0, c1, c2, c3, c4, c5, hx⟩ := (H.out.stays bel).get j hlt
        have HE := hideP he
        have HX := hideP hx
        have HB := hideP bel
        have hsz := bel.size
        have hM' := hM.out
        clear he hx bel
        go_wp2_with fail
        refine (IH.out es[j] (List.getElem_mem hlt) _ B _ M (by rw [HE.out]; exact HX.out) (by omega)).mono ?_
        rintro e1 w1 ⟨rfl, bel1⟩
        have hw1 : Hid (Below w.heap.size w w1) := HB.out.trans (bel1.mono hsz)
        have htk := stsSum_take es j hlt
        have hle := stsSum_le es (j + 1)
        clear bel1 c0 c1 c2 c3 c4 c5
        by_cases hs : es[j].sz ≤ M
        · rw [szR_pos hs]
          have HT := hideP htk
          have HS := hideP hs
          clear htk hs hle hM'
          go_wp2
          go_roundw
          case rel => exact ⟨j + 1, M - es[j].sz, by omega, by go_num, rfl, show _ = _ by have h1 := hM.out; have h2 := HT.out; have h3 := HS.out; omega, hw1.out⟩
          case measure => simp [intOf]; omega
        · rw [szR_neg (by omega)]
          have E1 : Hid (szR (stsSz es) L = -1) := szR_neg (by unfold stsSz; omega)
          clear htk hle hM' hs
          go_wp2
          go_ret
          exact ⟨ret_int E1.out.symm, hw1.out⟩
      · have hjn : j = es.length := by omega
        subst hjn
        go_wp2
        go_ret
        have h1 := hM.out
        rw [List.take_length] at h1
        exact ⟨ret_int (by rw [szR_pos (by unfold stsSz; omega)]; unfold stsSz; omega), bel⟩

set_option maxHeartbeats 1000000 in
theorem szStmt_any (e : St) : SzSt e := by
  induction e using St.ind with
  | h k n b exps xs ys ihx ihy =>
    intro w B v L hx hL
    obtain ⟨a, cap, ax, cx, ay, cy, rfl, he, hxs, hys⟩ := hx.out
    have hm := maxLen_lt
    rw [St.sz_mk]
    have HE := hideP he
    have HX := hideP hxs
    have HY := hideP hys
    have IHX := hideP ihx
    have IHY := hideP ihy
    clear hx he hxs hys ihx ihy
    go_enter Try.func48, Try.ntmps48
    go_wp2_with fail
    refine (szExpS_any exps _ B a cap L (HE.out.stays ((Below.refl _ _).alloc (Nat.le_refl _) _)) hL).mono ?_
    rintro e1 w1 ⟨rfl, bel1⟩
    have hn1 := below_new bel1
    have c4 : w1.cell? ⟨w.heap.size, 4, none⟩ = some (.slice ax xs.length cx) := by rw [bel1.cell (p := ⟨w.heap.size, 4, none⟩) (by simp), World.cell?_alloc_new]; rfl
    have c5 : w1.cell? ⟨w.heap.size, 5, none⟩ = some (.slice ay ys.length cy) := by rw [bel1.cell (p := ⟨w.heap.size, 5, none⟩) (by simp), World.cell?_alloc_new]; rfl
    have hsz1 : w.heap.size < w1.heap.size := hlt_of bel1
    have hw1 := hideP hn1
    clear bel1 hn1
    by_cases hs : exsSz exps ≤ L
    · rw [szR_pos hs]
      go_wp2_with fail
      refine (szStmtS_of xs IHX.out _ B ax cx (L - exsSz exps) (HX.out.stays hw1.out) (by omega)).mono ?_
      rintro e2 w2 ⟨rfl, bel2⟩
      have d5 : w2.cell? ⟨w.heap.size, 5, none⟩ = some (.slice ay ys.length cy) := (bel2.cell (p := ⟨w.heap.size, 5, none⟩) hsz1).trans c5
      have hw2 := hideP (below_trans hw1.out bel2)
      have hsz2 := bel2.size
      clear bel2 c4 c5
      by_cases hs2 : stsSz xs ≤ L - exsSz exps
      · rw [szR_pos hs2]
        go_wp2_with fail
        refine (szStmtS_of ys IHY.out _ B ay cy (L - exsSz exps - stsSz xs) (HY.out.stays hw2.out) (by omega)).mono ?_
        rintro e3 w3 ⟨rfl, bel3⟩
        have hw3 := hideP (below_trans hw2.out bel3)
        clear bel3 d5
        by_cases hs3 : stsSz ys ≤ L - exsSz exps - stsSz xs
        · rw [szR_pos hs3]
          have HS := hideP hs
          have HS2 := hideP hs2
          have HS3 := hideP hs3
          clear hs hs2 hs3
          go_wp2
          go_ret
          exact ⟨ret_int (by have := HS.out; have := HS2.out; have := HS3.out; rw [szR_pos (show exsSz exps + stsSz xs + stsSz ys ≤ L by omega)]; omega), hw3.out⟩
        · rw [szR_neg (by omega)]
          have E1 : Hid (szR (exsSz exps + stsSz xs + stsSz ys) L = -1) := szR_neg (by omega)
          clear hs hs2 hs3
          go_wp2
          go_ret
          exact ⟨ret_int E1.out.symm, hw3.out⟩
      · rw [szR_neg (by omega)]
        have E1 : Hid (szR (exsSz exps + stsSz xs + stsSz ys) L = -1) := szR_neg (by omega)
        clear hs hs2
        go_wp2
        go_ret
        exact ⟨ret_int E1.out.symm, hw2.out⟩
    · rw [szR_neg (by omega)]
      have E1 : Hid (szR (exsSz exps + stsSz xs + stsSz ys) L = -1) := szR_neg (by omega)
      clear hs
      go_wp2
      go_ret
      exact ⟨ret_int E1.out.symm, hw1.out⟩
theorem szStmtS_any (es : List St) (w : World) (B : Nat) (a : Option Addr) (cap L : Nat) (h : StsIs w B a es) (hL : L ≤ 1048576) :
    Calls Try.prog 30 #[.slice a es.length cap, .int .i64 L] w fun en w' => en = .returned (.int .i64 (szR (stsSz es) L)) ∧ Below w.heap.size w w' :=
  szStmtS_of es (fun e _ => szStmt_any e) w B a cap L h hL

set_option maxHeartbeats 1000000 in
theorem szIntS_any (w : World) (a : Option Addr) (n cap L : Nat) (hn : n ≤ maxLen) (hL : L ≤ 1048576) :
    Calls Try.prog 29 #[.slice a n cap, .int .i64 L] w fun en w' => en = .returned (.int .i64 (szR n L)) ∧ w' = w := by
  have hm := maxLen_lt
  by_cases h0 : n ≤ L
  · rw [szR_pos h0]
    go_enter Try.func29, Try.ntmps29
    go_wp2
    go_ret
    exact ⟨ret_int (by omega), rfl⟩
  · rw [szR_neg (by omega)]
    go_enter Try.func29, Try.ntmps29
    go_wp2
    go_ret
    exact ⟨rfl, rfl⟩
set_option maxHeartbeats 1000000 in
theorem szProgram_any (p : Pr) (w : World) (B : Nat) (v : Array Value) (L : Nat) (h : PrIs w B v p) (hL : L ≤ 1048576) :
    Calls Try.prog 8 #[.agg v, .int .i64 L] w fun en w' => en = .returned (.int .i64 (szR p.sz L)) ∧ Below w.heap.size w w' := by
  obtain ⟨a, cap, ab, cb, rfl, hz, hb⟩ := h
  have hzl := hz.1
  have hm := maxLen_lt
  have HB := hideP hb
  unfold Pr.sz
  clear hz hb
  go_enter Try.func8, Try.ntmps8
  go_wp2_with fail
  refine (szIntS_any _ a p.sizes.length cap L hzl hL).mono ?_
  rintro e1 w1 ⟨rfl, rfl⟩
  by_cases hs : p.sizes.length ≤ L
  · rw [szR_pos hs]
    go_wp2_with fail
    refine (szStmtS_any p.body _ B ab cb (L - p.sizes.length) (HB.out.stays ((Below.refl _ _).alloc (Nat.le_refl _) _)) (by omega)).mono ?_
    rintro e2 w2 ⟨rfl, bel2⟩
    have hw2 := hideP (below_new bel2)
    clear bel2
    by_cases hs2 : stsSz p.body ≤ L - p.sizes.length
    · rw [szR_pos hs2]
      have HS := hideP hs
      have HS2 := hideP hs2
      clear hs hs2
      go_wp2
      go_ret
      exact ⟨ret_int (by have := HS.out; have := HS2.out; rw [szR_pos (show p.sizes.length + stsSz p.body ≤ L by omega)]; omega), hw2.out⟩
    · rw [szR_neg (by omega)]
      have E1 : Hid (szR (p.sizes.length + stsSz p.body) L = -1) := szR_neg (by omega)
      clear hs hs2
      go_wp2
      go_ret
      exact ⟨ret_int E1.out.symm, hw2.out⟩
  · rw [szR_neg (by omega)]
    have E1 : Hid (szR (p.sizes.length + stsSz p.body) L = -1) := szR_neg (by omega)
    clear hs
    go_wp2
    go_ret
    exact ⟨ret_int E1.out.symm, (Below.refl _ _).alloc (Nat.le_refl _) _⟩
end Go.Proofs.Ytdkdimklacblaah
