/- The contract of spec.l02Stmts. -/
import Derived.Test.YtdkdimklacblaahFlat
namespace Go.Proofs.Ytdkdimklacblaah
open Go.ChangeShapes Go.WideShapes Go.ChangeAt Go.RowKit

/-- The cells of element i, as the list's own predicate has them. -/
theorem ExsIs.at {w w' : World} {B : Nat} {es : List Ex} {a : Option Addr} (h : ExsIs w B a es) (bw : Below w.heap.size w w') (j : Nat) (hlt : j < es.length) :
    ∃ g o k n bs t kids ka kc, a = some ⟨g, o, none⟩ ∧ es[j] = .mk k n bs t kids ∧ g < w.heap.size ∧ w'.cell? ⟨g, o + j * 5, none⟩ = some (.int .i64 k) ∧ w'.cell? ⟨g, o + j * 5 + 1, none⟩ = some (.int .i64 n) ∧ w'.cell? ⟨g, o + j * 5 + 2, none⟩ = some (.int .i64 bs) ∧ w'.cell? ⟨g, o + j * 5 + 3, none⟩ = some (.string t) ∧ w'.cell? ⟨g, o + j * 5 + 4, none⟩ = some (.slice ka kids.length kc) ∧
      ExIs w B #[.int .i64 k, .int .i64 n, .int .i64 bs, .string t, .slice ka kids.length kc] es[j] := by
  obtain ⟨g, o, k, n, bs, t, kids, ka, kc, rfl, _, hg, he, q0, q1, q2, q3, q4, hx⟩ := h.get j hlt
  refine ⟨g, o, k, n, bs, t, kids, ka, kc, rfl, he, hg, (bw.cell (p := ⟨g, _, none⟩) hg).trans q0, (bw.cell (p := ⟨g, _, none⟩) hg).trans q1, (bw.cell (p := ⟨g, _, none⟩) hg).trans q2, (bw.cell (p := ⟨g, _, none⟩) hg).trans q3, (bw.cell (p := ⟨g, _, none⟩) hg).trans q4, ?_⟩
  rw [he]; exact hx
theorem StsIs.at {w w' : World} {B : Nat} {es : List St} {a : Option Addr} (h : StsIs w B a es) (bw : Below w.heap.size w w') (j : Nat) (hlt : j < es.length) :
    ∃ g o k n bs exps xs ys ea ec xa xc ya yc, a = some ⟨g, o, none⟩ ∧ es[j] = .mk k n bs exps xs ys ∧ g < w.heap.size ∧ w'.cell? ⟨g, o + j * 6, none⟩ = some (.int .i64 k) ∧ w'.cell? ⟨g, o + j * 6 + 1, none⟩ = some (.int .i64 n) ∧ w'.cell? ⟨g, o + j * 6 + 2, none⟩ = some (.int .i64 bs) ∧ w'.cell? ⟨g, o + j * 6 + 3, none⟩ = some (.slice ea exps.length ec) ∧ w'.cell? ⟨g, o + j * 6 + 4, none⟩ = some (.slice xa xs.length xc) ∧ w'.cell? ⟨g, o + j * 6 + 5, none⟩ = some (.slice ya ys.length yc) ∧
      StIs w B #[.int .i64 k, .int .i64 n, .int .i64 bs, .slice ea exps.length ec, .slice xa xs.length xc, .slice ya ys.length yc] es[j] := by
  obtain ⟨g, o, k, n, bs, exps, xs, ys, ea, ec, xa, xc, ya, yc, rfl, _, hg, he, q0, q1, q2, q3, q4, q5, hx⟩ := h.get j hlt
  refine ⟨g, o, k, n, bs, exps, xs, ys, ea, ec, xa, xc, ya, yc, rfl, he, hg, (bw.cell (p := ⟨g, _, none⟩) hg).trans q0, (bw.cell (p := ⟨g, _, none⟩) hg).trans q1, (bw.cell (p := ⟨g, _, none⟩) hg).trans q2, (bw.cell (p := ⟨g, _, none⟩) hg).trans q3, (bw.cell (p := ⟨g, _, none⟩) hg).trans q4, (bw.cell (p := ⟨g, _, none⟩) hg).trans q5, ?_⟩
  rw [he]; exact hx

def LxS (es : List St) : Prop := ∀ (w0 w : World) (B : Nat) (a : Option Addr) (cap : Nat), StsIs w0 B a es → Below w0.heap.size w0 w → stsSz es ≤ 1048576 →
  Calls Try.prog 31 #[.slice a es.length cap] w fun en w' => ∃ r xs, en = .returned r ∧ OwnR 74 6 w' w.heap.size r (stsFlat es).length xs ∧ RC (StIs w0 B) xs (stsFlat es) ∧ Below w.heap.size w w'
def LxIn : St → Prop
  | .mk _ _ _ _ xs ys => LxS xs ∧ LxS ys
set_option maxHeartbeats 4000000 in
theorem l02Stmts_of (es : List St) (ih : ∀ e ∈ es, LxIn e) : LxS es := by
  intro w0 w B a cap hes hw0 hsz
  have hfl : ∀ j, (stsFlat (es.take j)).length ≤ 1048576 := fun j => by
    have h1 := flat_le_sts (es.take j) fun e _ => flat_le_st e
    have h2 := stsSz_take es j
    omega
  have hm := maxLen_lt'
  have hle : es.length ≤ 1048576 := by unfold stsSz at hsz; omega
  have own0 : OwnR 74 6 (w.alloc (.cells #[] 74)) w.heap.size (.slice (some ⟨w.heap.size, 0, none⟩) 0 0) 0 [] := OwnR.made w 74 6 #[] 0 (by unfold maxLen; omega) rfl
  have OWN0 := hideP own0
  have RC0 : Hid (RC (StIs w0 B) [] (stsFlat (es.take 0))) := by show RC _ _ _; simp only [List.take_zero, stsFlat]; exact .nil
  have H := hideP hes
  have W0 := hideP hw0
  have IH := hideP ih
  have FL := hideP hfl
  clear hes hw0 ih hfl own0
  go_enter Try.func31, Try.ntmps31
  go_wp2
  go_loopw [3, 4] (fun r i wr => ∃ (j : Nat) (xs : List Value), j ≤ es.length ∧ i = .int .i64 j ∧ Hid (OwnR 74 6 wr w.heap.size r (stsFlat (es.take j)).length xs) ∧ Hid (RC (StIs w0 B) xs (stsFlat (es.take j))) ∧ Hid (Below w.heap.size w wr)) (fun _ i _ => es.length - (intOf i).toNat)
  case atStart => exact ⟨0, _, Nat.zero_le _, rfl, OWN0, RC0, (Below.refl _ _).alloc (Nat.le_refl _) _⟩
  case round =>
    obtain ⟨j, xs, hj, rfl, hown, hrc, hbel⟩ := hrel
    clear OWN0 RC0
    by_cases hlt : j < es.length
    · have bw := W0.out.trans (hbel.out.mono W0.out.size)
      obtain ⟨g, o, k, n, bs, exps, sx, sy, ea, ec, xa, xc, ya, yc, rfl, he, hg, q0, q1, q2, q3, q4, q5, hx⟩ := H.out.at bw j hlt
      have hmem : es[j] ∈ es := List.getElem_mem hlt
      have hin := IH.out _ hmem
      have esz := stsSum_mem hmem
      rw [he] at hx hin esz
      rw [St.sz_mk] at esz
      obtain ⟨ex, ax, cx, ay, cy, ax', hv6, hxE, hxX, hxY⟩ := hx.out
      have hszs : stsSz sx ≤ 1048576 ∧ stsSz sy ≤ 1048576 := by unfold stsSz at hsz; omega
      cases hv6
      have fx : (stsFlat sx).length ≤ 1048576 := by have := flat_le_sts sx fun e _ => flat_le_st e; omega
      have fy : (stsFlat sy).length ≤ 1048576 := by have := flat_le_sts sy fun e _ => flat_le_st e; omega
      have fl := FL.out j
      have HT : Hid (stsFlat (es.take (j + 1)) = stsFlat (es.take j) ++ (.mk k n bs exps sx sy :: (stsFlat sx ++ stsFlat sy))) := by
        show _ = _
        rw [stsFlat_take es j hlt, he]; simp [St.flat]
      have LA := hideP (fun W (hW : Below w.heap.size w W) cap => hin.1 w0 W B xa cap hxX (W0.out.trans (hW.mono W0.out.size)) hszs.1)
      have LB := hideP (fun W (hW : Below w.heap.size w W) cap => hin.2 w0 W B ya cap hxY (W0.out.trans (hW.mono W0.out.size)) hszs.2)
      have CELL := hideP (fun W (hW : Below w.heap.size w W) => (show W.cell? ⟨g, o + j * 6 + 4, none⟩ = some (.slice xa sx.length xc) ∧ W.cell? ⟨g, o + j * 6 + 5, none⟩ = some (.slice ya sy.length yc) from by
        have hgw : g < w.heap.size := Nat.lt_of_lt_of_le hg W0.out.size
        exact ⟨(hW.cell (p := ⟨g, _, none⟩) hgw).trans ((hbel.out.cell (p := ⟨g, _, none⟩) hgw).symm.trans q4), (hW.cell (p := ⟨g, _, none⟩) hgw).trans ((hbel.out.cell (p := ⟨g, _, none⟩) hgw).symm.trans q5)⟩))
      have HX := hideP hx
      have OL := hideP (OwnR.made wr 74 6 #[.int .i64 k, .int .i64 n, .int .i64 bs, .slice ea exps.length ec, .slice xa sx.length xc, .slice ya sy.length yc] 1 (by unfold maxLen; omega) rfl)
      have OA := hideP (hown.out.stays ((Below.refl _ _).alloc (Nat.le_refl _) (.cells #[.int .i64 k, .int .i64 n, .int .i64 bs, .slice ea exps.length ec, .slice xa sx.length xc, .slice ya sy.length yc] 74)))
      have BA := hideP (hbel.out.alloc hbel.out.size (.cells #[.int .i64 k, .int .i64 n, .int .i64 bs, .slice ea exps.length ec, .slice xa sx.length xc, .slice ya sy.length yc] 74))
      clear hx hxE hxX hxY hmem hin he esz hszs bw hown hbel hg
      go_wp2_with (at_builtin; refine list_appR Try.underlying28 infoSt rfl (by decide) (by decide) _ rfl _ _ rfl w.heap.size _ _ _ _ 1 xs _ rfl rfl OA.out OL.out (one_st _ _ HX.out) (by omega) BA.out.size ?_; intro v1 w1 own1 grow1 loc1; have OWN1 := hideP own1; have B1 := hideP (BA.out.grown grow1 BA.out.size OA.out.low); obtain ⟨y4, y5⟩ := CELL.out _ B1.out; clear own1 grow1 loc1 OA OL BA)
      refine (LA.out _ B1.out _).mono ?_
      rintro e2 w2 ⟨r2, ys, rfl, own2, rc2, bel2⟩
      have OWN1' := hideP (OWN1.out.stays bel2)
      have OWN2 := hideP own2
      have RC2 := hideP rc2
      have B2 := hideP (B1.out.trans (bel2.mono B1.out.size))
      clear own2 rc2 bel2 OWN1 y4 y5 LA
      go_wp2_with (at_builtin; refine list_appR Try.underlying28 infoSt rfl (by decide) (by decide) _ rfl _ _ rfl w.heap.size _ _ r2 _ _ _ ys rfl rfl OWN1'.out OWN2.out (RC2.out.one one_st) (by omega) B2.out.size ?_; intro v3 w3 own3 grow3 loc3; have OWN3 := hideP own3; have B3 := hideP (B2.out.grown grow3 B2.out.size OWN1'.out.low); obtain ⟨z4, z5⟩ := CELL.out _ B3.out; clear own3 grow3 loc3 OWN1' OWN2)
      refine (LB.out _ B3.out _).mono ?_
      rintro e4 w4 ⟨r4, zs, rfl, own4, rc4, bel4⟩
      have OWN3' := hideP (OWN3.out.stays bel4)
      have OWN4 := hideP own4
      have RC4 := hideP rc4
      have B4 := hideP (B3.out.trans (bel4.mono B3.out.size))
      clear own4 rc4 bel4 OWN3 z4 z5 LB CELL
      go_wp2_with (at_builtin; refine list_appR Try.underlying28 infoSt rfl (by decide) (by decide) _ rfl _ _ rfl w.heap.size _ _ r4 _ _ _ zs rfl rfl OWN3'.out OWN4.out (RC4.out.one one_st) (by omega) B4.out.size ?_; intro v5 w5 own5 grow5 loc5)
      have B5 := hideP (B4.out.grown grow5 B4.out.size OWN3'.out.low)
      have RC5 : Hid (RC (StIs w0 B) (xs ++ ((#[.int .i64 k, .int .i64 n, .int .i64 bs, .slice ea exps.length ec, .slice xa sx.length xc, .slice ya sy.length yc] : Array Value).toList ++ (ys ++ zs))) (stsFlat (es.take (j + 1)))) := by
        show RC _ _ _
        rw [HT.out]
        exact hrc.out.append (RC.cons HX.out (RC2.out.append RC4.out))
      have OWN5 : Hid (OwnR 74 6 w5 w.heap.size v5 (stsFlat (es.take (j + 1))).length (xs ++ ((#[.int .i64 k, .int .i64 n, .int .i64 bs, .slice ea exps.length ec, .slice xa sx.length xc, .slice ya sy.length yc] : Array Value).toList ++ (ys ++ zs)))) := by
        show OwnR _ _ _ _ _ _ _
        rw [HT.out, List.length_append, List.length_cons, List.length_append]
        rw [show (stsFlat (List.take j es)).length + ((stsFlat sx).length + (stsFlat sy).length + 1) = (stsFlat (List.take j es)).length + 1 + (stsFlat sx).length + (stsFlat sy).length by omega]
        rw [← List.append_assoc _ ys zs, ← List.append_assoc xs, ← List.append_assoc xs]
        exact own5
      clear own5 grow5 loc5 OWN3' OWN4
      go_wp2
      go_roundw
      case rel => exact ⟨j + 1, _, by omega, by go_num, OWN5, RC5, B5⟩
      case measure => simp [intOf]; omega
    · have hjn : j = es.length := by omega
      subst hjn
      rw [List.take_length] at hown hrc
      go_wp2
      go_ret
      exact ⟨_, xs, rfl, hown.out, hrc.out, hbel.out⟩
theorem l02Stmts_in (e : St) : LxIn e := by
  induction e using St.ind with
  | h k n b exps xs ys ihx ihy => exact ⟨l02Stmts_of xs ihx, l02Stmts_of ys ihy⟩
theorem l02Stmts_any (es : List St) : LxS es := l02Stmts_of es fun e _ => l02Stmts_in e
end Go.Proofs.Ytdkdimklacblaah
