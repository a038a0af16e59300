/- The contracts of spec.l02Exps and spec.l02Stmts: an expression, or a list of statements, with all within it. -/
import Derived.Test.YtdkdimklacblaahRows2
import Derived.WalkLawsBesides
namespace Go.Proofs.Ytdkdimklacblaah
open Go.ChangeShapes Go.WideShapes Go.ChangeAt Go.RowKit

mutual
def Ex.flat : Ex → List Ex
  | .mk k n b t kids => .mk k n b t kids :: exsFlat kids
def exsFlat : List Ex → List Ex
  | [] => []
  | e :: l => e.flat ++ exsFlat l
end
mutual
def St.flat : St → List St
  | .mk k n b exps xs ys => .mk k n b exps xs ys :: (stsFlat xs ++ stsFlat ys)
def stsFlat : List St → List St
  | [] => []
  | e :: l => e.flat ++ stsFlat l
end
theorem exsFlat_append : ∀ l m : List Ex, exsFlat (l ++ m) = exsFlat l ++ exsFlat m
  | [], m => by simp [exsFlat]
  | e :: l, m => by simp [exsFlat, exsFlat_append l m]
theorem stsFlat_append : ∀ l m : List St, stsFlat (l ++ m) = stsFlat l ++ stsFlat m
  | [], m => by simp [stsFlat]
  | e :: l, m => by simp [stsFlat, stsFlat_append l m]
theorem exsFlat_take (l : List Ex) (i : Nat) (h : i < l.length) : exsFlat (l.take (i + 1)) = exsFlat (l.take i) ++ l[i].flat := by
  rw [List.take_succ_eq_append_getElem h, exsFlat_append]; simp [exsFlat]
theorem stsFlat_take (l : List St) (i : Nat) (h : i < l.length) : stsFlat (l.take (i + 1)) = stsFlat (l.take i) ++ l[i].flat := by
  rw [List.take_succ_eq_append_getElem h, stsFlat_append]; simp [stsFlat]
theorem flat_le_exs : ∀ l : List Ex, (∀ e ∈ l, e.flat.length ≤ 1 + e.sz) → (exsFlat l).length ≤ exsSz l
  | [], _ => by simp [exsFlat, exsSz, exsSum]
  | x :: l, h => by
    have h1 := flat_le_exs l fun e he => h e (by simp [he])
    have h2 := h x (by simp)
    simp [exsFlat, exsSz, exsSum] at *; omega
theorem flat_le_ex (e : Ex) : e.flat.length ≤ 1 + e.sz := by
  induction e using Ex.ind with
  | h k n b t kids ih =>
    have := flat_le_exs kids ih
    rw [Ex.sz_mk]; simp [Ex.flat]; omega
theorem flat_le_sts : ∀ l : List St, (∀ e ∈ l, e.flat.length ≤ 1 + e.sz) → (stsFlat l).length ≤ stsSz l
  | [], _ => by simp [stsFlat, stsSz, stsSum]
  | x :: l, h => by
    have h1 := flat_le_sts l fun e he => h e (by simp [he])
    have h2 := h x (by simp)
    simp [stsFlat, stsSz, stsSum] at *; omega
theorem flat_le_st (e : St) : e.flat.length ≤ 1 + e.sz := by
  induction e using St.ind with
  | h k n b exps xs ys ihx ihy =>
    have h1 := flat_le_sts xs ihx
    have h2 := flat_le_sts ys ihy
    rw [St.sz_mk]; simp [St.flat]; omega
theorem exsSz_take (l : List Ex) (i : Nat) : exsSz (l.take i) ≤ exsSz l := by
  have := exsSum_le l i
  unfold exsSz; simp; omega
theorem stsSz_take (l : List St) (i : Nat) : stsSz (l.take i) ≤ stsSz l := by
  have := stsSum_le l i
  unfold stsSz; simp; omega

def LxE (e : Ex) : Prop := ∀ (w0 w : World) (B : Nat) (v : Array Value), ExIs w0 B v e → Below w0.heap.size w0 w → e.sz ≤ 1048576 →
  Calls Try.prog 39 #[.agg v] w fun en w' => ∃ r xs, en = .returned r ∧ OwnR 41 5 w' w.heap.size r e.flat.length xs ∧ RC (ExIs w0 B) xs e.flat ∧ Below w.heap.size w w'
set_option maxHeartbeats 2000000 in
theorem l02Exps_any (e : Ex) : LxE e := by
  induction e using Ex.ind with
  | h k n b t kids ih =>
    intro w0 w B v hx hw0 hsz
    have hx0 := hx
    obtain ⟨a, cap, rfl, ht, hk⟩ := hx.out
    rw [Ex.sz_mk] at hsz
    have hfl : ∀ j, (exsFlat (kids.take j)).length ≤ 1048576 := fun j => by
      have h1 := flat_le_exs (kids.take j) fun e _ => flat_le_ex e
      have h2 := exsSz_take kids j
      omega
    have kfl : ∀ i (h : i < kids.length), kids[i].flat.length ≤ 1048577 := fun i h => by
      have h1 := flat_le_ex kids[i]
      have h2 := exsSum_mem (List.getElem_mem h)
      unfold exsSz at hsz; omega
    obtain ⟨W, hW⟩ : ∃ W, w.alloc (.cells #[.int .i64 k, .int .i64 n, .int .i64 b, .string t, .slice a kids.length cap] 41) = W := ⟨_, rfl⟩
    have al : Below w.heap.size w W := by rw [← hW]; exact (Below.refl _ _).alloc (Nat.le_refl _) _
    have hWs : W.heap.size = w.heap.size + 1 := by rw [← hW]; simp
    have bx : W.heap[w.heap.size]? = some (.cells #[.int .i64 k, .int .i64 n, .int .i64 b, .string t, .slice a kids.length cap] 41 (0, 0)) := by rw [← hW]; exact blk_new' _ _
    have own0 : OwnR 41 5 (W.alloc (.cells #[.int .i64 k, .int .i64 n, .int .i64 b, .string t, .slice a kids.length cap] 41)) W.heap.size (.slice (some ⟨W.heap.size, 0, none⟩) 1 1) 1 [.int .i64 k, .int .i64 n, .int .i64 b, .string t, .slice a kids.length cap] := OwnR.made W 41 5 _ 1 (by unfold maxLen; omega) rfl
    have OWN0 := hideP own0
    have rc0 : RC (ExIs w0 B) [.int .i64 k, .int .i64 n, .int .i64 b, .string t, .slice a kids.length cap] (.mk k n b t kids :: exsFlat (kids.take 0)) := by
      have := RC.cons (Is := ExIs w0 B) hx0 RC.nil
      simpa [exsFlat] using this
    have RC0 := hideP rc0
    have BX := hideP bx
    have AL := hideP al
    have W0 := hideP hw0
    have HK := hideP hk
    have IH := hideP ih
    have FL := hideP hfl
    have KFL := hideP kfl
    have HWe := hideP hW
    have HE : Hid ((Ex.mk k n b t kids).flat = .mk k n b t kids :: exsFlat kids) := by show _ = _; simp [Ex.flat]
    have hm := maxLen_lt'
    have hlk := hk.1
    have hsz2 : kids.length ≤ 1048576 := by unfold exsSz at hsz; omega
    clear hx hx0 hk ih hfl kfl own0 rc0 bx al hW hw0
    go_enter Try.func39, Try.ntmps39
    go_wp2
    rw [HWe.out]
    clear HWe
    rw [show w.heap.size + 1 = W.heap.size from hWs.symm]
    have HWS := hideP hWs
    clear hWs
    go_loopw [3, 4] (fun r i wr => ∃ (j : Nat) (xs : List Value), j ≤ kids.length ∧ i = .int .i64 j ∧ Hid (OwnR 41 5 wr W.heap.size r (1 + (exsFlat (kids.take j)).length) xs) ∧ Hid (RC (ExIs w0 B) xs (.mk k n b t kids :: exsFlat (kids.take j))) ∧ Hid (Below W.heap.size W wr)) (fun _ i _ => kids.length - (intOf i).toNat)
    case atStart => exact ⟨0, _, Nat.zero_le _, rfl, OWN0, RC0, (Below.refl _ _).alloc (Nat.le_refl _) _⟩
    case round =>
      obtain ⟨j, xs, hj, rfl, hown, hrc, hbel⟩ := hrel
      have bxr := (hbel.out.block w.heap.size (by have := HWS.out; omega)).trans BX.out
      have d4 : wr.cell? ⟨w.heap.size, 4, none⟩ = some (.slice a kids.length cap) := by simp [World.cell?, bxr]
      clear bxr OWN0 RC0
      by_cases hlt : j < kids.length
      · have bw := W0.out.trans ((AL.out.trans (hbel.out.mono AL.out.size)).mono W0.out.size)
        obtain ⟨g, o, k', n', bs', t', kids', ka, kc, rfl, _, hg, he, q0, q1, q2, q3, q4, hx'⟩ := (HK.out.stays bw).get j hlt
        have hmem : kids[j] ∈ kids := List.getElem_mem hlt
        have ksz : kids[j].sz ≤ 1048576 := by have := exsSum_mem hmem; unfold exsSz at hsz; omega
        have hkx : ExIs w0 B #[.int .i64 k', .int .i64 n', .int .i64 bs', .string t', .slice ka kids'.length kc] kids[j] := by
          obtain ⟨hl, vs, hr, hxs⟩ := HK.out
          have h1 := hxs j hlt
          have : vs j = #[.int .i64 k', .int .i64 n', .int .i64 bs', .string t', .slice ka kids'.length kc] := by
            rcases hr with h0 | ⟨g', o', ha, _, hgb, _, hc⟩
            · omega
            · cases ha
              have h2 := (hc j hlt).1
              have h3 := (hc j hlt).2
              apply Array.ext_getElem?
              intro i
              rcases Nat.lt_or_ge i 5 with hi | hi
              · rw [← h3 i hi, ← bw.cell (p := ⟨g, o + j * 5 + i, none⟩) hgb]
                match i, hi with
                | 0, _ => rw [Nat.add_zero]; exact q0
                | 1, _ => exact q1
                | 2, _ => exact q2
                | 3, _ => exact q3
                | 4, _ => exact q4
              · rw [Array.getElem?_eq_none (by omega), Array.getElem?_eq_none (by simpa using hi)]
          rw [this] at h1; exact h1
        have CJ := hideP (IH.out _ hmem w0 wr B _ hkx bw ksz)
        have HKX := hideP hkx
        have kf := KFL.out j hlt
        have fl := FL.out j
        have HT := hideP (exsFlat_take kids j hlt)
        have HBW := hideP bw
        clear hkx hmem he hx' bw
        go_wp2_with fail
        refine CJ.out.mono ?_
        rintro e1 w1 ⟨r1, ys, rfl, own1, rc1, bel1⟩
        have OWN1 := hideP own1
        have OWNR := hideP (hown.out.stays bel1)
        have RC1 := hideP rc1
        have HB1 := hideP (hbel.out.trans (bel1.mono hbel.out.size))
        clear own1 rc1 bel1 q0 q1 q2 q3 q4 d4 CJ
        go_wp2_with (at_builtin; refine list_appR Try.underlying39 infoEx rfl (by decide) (by decide) _ rfl _ _ rfl W.heap.size _ _ r1 _ _ xs ys rfl rfl OWNR.out OWN1.out (RC1.out.one one_ex) (by omega) HB1.out.size ?_; intro v2 w2 own2 grow2 loc2)
        have OWN2 : Hid (OwnR 41 5 w2 W.heap.size v2 (1 + (exsFlat (kids.take (j + 1))).length) (xs ++ ys)) := by
          rw [HT.out, List.length_append, ← Nat.add_assoc]; exact own2
        have RC2 : Hid (RC (ExIs w0 B) (xs ++ ys) (.mk k n b t kids :: exsFlat (kids.take (j + 1)))) := by
          show RC _ _ _
          rw [HT.out]
          have h1 := hrc.out.append RC1.out
          simpa using h1
        have HB2 := hideP (HB1.out.grown grow2 HB1.out.size OWNR.out.low)
        clear own2 grow2 loc2 OWN1 OWNR RC1
        go_wp2
        go_roundw
        case rel => exact ⟨j + 1, xs ++ ys, by omega, by go_num, OWN2, RC2, HB2⟩
        case measure => simp [intOf]; omega
      · have hjn : j = kids.length := by omega
        subst hjn
        rw [List.take_length] at hown hrc
        go_wp2
        go_ret
        refine ⟨_, xs, rfl, ?_, by rw [HE.out]; exact hrc.out, AL.out.trans (hbel.out.mono AL.out.size)⟩
        rw [HE.out, List.length_cons, Nat.add_comm]
        exact hown.out.mono AL.out.size
end Go.Proofs.Ytdkdimklacblaah
