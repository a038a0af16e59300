/- The contract of spec.l02All: all expressions of a program. -/
import Derived.Test.YtdkdimklacblaahFlatS
import Derived.Test.YtdkdimklacblaahWithin0
namespace Go.Proofs.Ytdkdimklacblaah
open Go.ChangeShapes Go.WideShapes Go.ChangeAt Go.RowKit

def St.exps : St → List Ex
  | .mk _ _ _ exps _ _ => exps
/-- All expressions of these statements, those within others too. -/
def allOf : List St → List Ex
  | [] => []
  | s :: l => exsFlat s.exps ++ allOf l
theorem allOf_append : ∀ l m : List St, allOf (l ++ m) = allOf l ++ allOf m
  | [], m => by simp [allOf]
  | s :: l, m => by simp [allOf, allOf_append l m]
theorem allOf_take (l : List St) (i : Nat) (h : i < l.length) : allOf (l.take (i + 1)) = allOf (l.take i) ++ exsFlat l[i].exps := by
  rw [List.take_succ_eq_append_getElem h, allOf_append]; simp [allOf]
theorem all_le_sts : ∀ l : List St, (∀ e ∈ l, (allOf e.flat).length ≤ e.sz) → (allOf (stsFlat l)).length ≤ stsSz l
  | [], _ => by simp [stsFlat, allOf, stsSz, stsSum]
  | x :: l, h => by
    have h1 := all_le_sts l fun e he => h e (by simp [he])
    have h2 := h x (by simp)
    simp [stsFlat, allOf_append, stsSz, stsSum] at *; omega
theorem all_le_st (e : St) : (allOf e.flat).length ≤ e.sz := by
  induction e using St.ind with
  | h k n b exps xs ys ihx ihy =>
    have h1 := all_le_sts xs ihx
    have h2 := all_le_sts ys ihy
    have h3 := flat_le_exs exps fun e _ => flat_le_ex e
    rw [St.sz_mk]; simp [St.flat, allOf, allOf_append, St.exps]; omega
theorem allOf_le_take (l : List St) (i : Nat) : (allOf (l.take i)).length ≤ (allOf l).length := by
  conv => rhs; rw [← List.take_append_drop i l, allOf_append, List.length_append]
  omega
theorem exps_sz {es : List St} {e : St} (h : e ∈ stsFlat es) : exsSz e.exps ≤ stsSz es := by
  have key : ∀ s : St, ∀ e ∈ s.flat, exsSz e.exps ≤ s.sz := by
    intro s
    induction s using St.ind with
    | h k n b exps xs ys ihx ihy =>
      have lst : ∀ l : List St, (∀ x ∈ l, ∀ e ∈ x.flat, exsSz e.exps ≤ x.sz) → ∀ e ∈ stsFlat l, exsSz e.exps ≤ stsSz l := by
        intro l
        induction l with
        | nil => intro _ e he; simp [stsFlat] at he
        | cons x l ihl =>
          intro h e he
          simp only [stsFlat, List.mem_append] at he
          rcases he with he | he
          · have := h x (by simp) e he
            simp [stsSz, stsSum]; omega
          · have := ihl (fun y hy => h y (by simp [hy])) e he
            simp [stsSz, stsSum] at *; omega
      intro e he
      rw [St.sz_mk]
      simp only [St.flat, List.mem_cons, List.mem_append] at he
      rcases he with rfl | he | he
      · simp [St.exps]; omega
      · have := lst xs ihx e he; omega
      · have := lst ys ihy e he; omega
  induction es with
  | nil => simp [stsFlat] at h
  | cons x l ihl =>
    simp only [stsFlat, List.mem_append] at h
    rcases h with h | h
    · have := key x e h
      simp [stsSz, stsSum]; omega
    · have := ihl h
      simp [stsSz, stsSum] at *; omega

set_option maxHeartbeats 4000000 in
theorem l02All_any (p : Pr) (w0 w : World) (B : Nat) (v : Array Value) (hp : PrIs w0 B v p) (hw0 : Below w0.heap.size w0 w) (hsz : p.sz ≤ 1048576) :
    Calls Try.prog 32 #[.agg v] w fun en w' => ∃ r xs, en = .returned r ∧ OwnR 41 5 w' w.heap.size r (allOf (stsFlat p.body)).length xs ∧ RC (ExIs w0 B) xs (allOf (stsFlat p.body)) ∧ Below w.heap.size w w' := by
  obtain ⟨a, cap, ab, cb, rfl, hz, hb⟩ := hp
  obtain ⟨sizes, params, vars, body⟩ := p
  simp only [Pr.sz] at hsz hz hb ⊢
  have hbs : stsSz body ≤ 1048576 := by omega
  have hall := all_le_sts body fun e _ => all_le_st e
  have hflat := flat_le_sts body fun e _ => flat_le_st e
  obtain ⟨W, hW⟩ : ∃ W, w.alloc (.cells #[.slice a sizes.length cap, .int .i64 params, .int .i64 vars, .slice ab body.length cb] 30) = W := ⟨_, rfl⟩
  have al : Below w.heap.size w W := by rw [← hW]; exact (Below.refl _ _).alloc (Nat.le_refl _) _
  have hWs : W.heap.size = w.heap.size + 1 := by rw [← hW]; simp
  have own0 : OwnR 41 5 (W.alloc (.cells #[] 41)) W.heap.size (.slice (some ⟨W.heap.size, 0, none⟩) 0 0) 0 [] := OwnR.made W 41 5 #[] 0 (by unfold maxLen; omega) rfl
  have b2 : Below w0.heap.size w0 (W.alloc (.cells #[] 41)) := hw0.trans ((al.trans (((Below.refl _ _).alloc (Nat.le_refl _) _).mono al.size)).mono hw0.size)
  have LC := hideP (l02Stmts_any body w0 (W.alloc (.cells #[] 41)) B ab cb hb b2 hbs)
  have OWN0 := hideP own0
  have AL := hideP al
  have W0 := hideP hw0
  have HWe := hideP hW
  have HWS := hideP hWs
  clear hb hz own0 al hw0 hW b2
  go_enter Try.func32, Try.ntmps32
  go_wp2_with fail
  rw [HWe.out]
  rw [show w.heap.size + 1 = W.heap.size from hWs.symm]
  clear hWs HWe
  refine LC.out.mono ?_
  rintro e1 w1 ⟨rl, xl, rfl, ownl, rcl, bel1⟩
  obtain ⟨gl, cl, rfl, hcl, hml, hBl, hgl, hxl, hcells⟩ := ownl.cells
  have OUT0 := hideP (OWN0.out.stays bel1)
  have hs2 : W.heap.size + 1 ≤ w1.heap.size := by have := bel1.size; simpa using this
  have hgl' : W.heap.size < gl := by have : (W.alloc (.cells #[] 41)).heap.size ≤ gl := hBl; simp at this; omega
  have BW1 : Hid (Below w0.heap.size w0 w1) := W0.out.trans ((AL.out.trans ((((Below.refl _ _).alloc (Nat.le_refl _) _).trans (bel1.mono (by simp))).mono AL.out.size)).mono W0.out.size)
  have BWw : Hid (Below w.heap.size w w1) := AL.out.trans ((((Below.refl _ _).alloc (Nat.le_refl _) _).trans (bel1.mono (by simp))).mono AL.out.size)
  have CELL := hideP hcells
  have RCL := hideP rcl
  clear ownl rcl bel1 OWN0 LC hcells hBl
  obtain ⟨F, hF⟩ : ∃ F, stsFlat body = F := ⟨_, rfl⟩
  rw [hF] at RCL hall hflat ⊢
  have ESZ : Hid (∀ e ∈ F, exsSz e.exps ≤ 1048576) := fun e he => by rw [← hF] at he; exact Nat.le_trans (exps_sz he) hbs
  have hm := maxLen_lt'
  have hFl : F.length ≤ 1048576 := by omega
  have hAl : (allOf F).length ≤ 1048576 := by omega
  have hclm : cl ≤ 9223372036854775807 := by omega
  have HF := hideP hF
  clear hF hall hflat hml
  go_wp2
  go_loopw [3, 5] (fun r i wr => ∃ (j : Nat) (xs : List Value), j ≤ F.length ∧ i = .int .i64 j ∧ Hid (OwnR 41 5 wr W.heap.size r (allOf (F.take j)).length xs) ∧ Hid (RC (ExIs w0 B) xs (allOf (F.take j))) ∧ Hid (But W.heap.size w1 wr) ∧ Hid (∀ b, r.ownBlock = some b → b = W.heap.size ∨ w1.heap.size ≤ b)) (fun _ i _ => F.length - (intOf i).toNat)
  case atStart =>
    refine ⟨0, [], Nat.zero_le _, rfl, OUT0, ?_, But.refl _ _, fun b hb => ?_⟩
    · show RC _ _ _; simp only [List.take_zero, allOf]; exact .nil
    · simp [Value.ownBlock] at hb; exact Or.inl hb.symm
  case round =>
    obtain ⟨j, xs, hj, rfl, hown, hrc, hbut, hblk⟩ := hrel
    clear OUT0
    by_cases hlt : j < F.length
    · obtain ⟨c6, hc6, hs6, hx6⟩ := RCL.out.get sz_st j hlt
      obtain ⟨k', n', b', exps, sx, sy, he⟩ : ∃ k n b exps xs ys, F[j] = St.mk k n b exps xs ys := by cases F[j] with | mk k n b exps xs ys => exact ⟨k, n, b, exps, xs, ys, rfl⟩
      have hex : F[j].exps = exps := by rw [he]; rfl
      have esz := ESZ.out _ (List.getElem_mem hlt)
      have htk := allOf_take F j hlt
      rw [hex] at esz htk
      have hle := allOf_le_take F (j + 1)
      rw [htk, List.length_append] at hle
      rw [he] at hc6
      obtain ⟨ea, ec, ax, cx, ay, cy, rfl, hes, _, _⟩ := hc6.out
      have q3 : w1.cell? ⟨gl, j * 6 + 3, none⟩ = some (.slice ea exps.length ec) := CELL.out _ _ (by rw [hx6 3 (by omega)]; rfl)
      have HES := hideP hes
      have hel : exps.length ≤ 1048576 := by unfold exsSz at esz; omega
      have HTK := hideP htk
      clear hc6 hx6 hs6 hes he hex htk
      have OWNJ := hideP hown.out
      have RCJ := hideP hrc.out
      have d3 := (hbut.out.cell (c := gl) (i := j * 6 + 3) hgl (by omega)).trans q3
      go_wp2
      go_loopw [3, 6] (fun r i wr => ∃ (k : Nat) (xs : List Value), k ≤ exps.length ∧ i = .int .i64 k ∧ Hid (OwnR 41 5 wr W.heap.size r ((allOf (F.take j)).length + (exsFlat (exps.take k)).length) xs) ∧ Hid (RC (ExIs w0 B) xs (allOf (F.take j) ++ exsFlat (exps.take k))) ∧ Hid (But W.heap.size w1 wr) ∧ Hid (∀ b, r.ownBlock = some b → b = W.heap.size ∨ w1.heap.size ≤ b)) (fun _ i _ => exps.length - (intOf i).toNat)
      case atStart =>
        refine ⟨0, xs, Nat.zero_le _, rfl, ?_, ?_, hbut, hblk⟩
        · show OwnR _ _ _ _ _ _ _; simpa [exsFlat] using OWNJ.out
        · show RC _ _ _; simpa [exsFlat] using RCJ.out
      case round =>
        clear d3 hown hrc hbut hblk OWNJ RCJ
        obtain ⟨k, xs2, hk, rfl, hown, hrc, hbut, hblk⟩ := hrel
        have d3 := (hbut.out.cell (c := gl) (i := j * 6 + 3) hgl (by omega)).trans q3
        by_cases hlk : k < exps.length
        · have bw : Below w0.heap.size w0 wr := BW1.out.trans (hbut.out.below (by have := W0.out.size; have := HWS.out; omega) BW1.out.size)
          obtain ⟨g, o, k2, n2, bs2, t2, kids2, ka, kc, rfl, hek, hg, q0, q1, q2, qq3, q4, hx⟩ := HES.out.at bw k hlk
          have hmem : exps[k] ∈ exps := List.getElem_mem hlk
          have ksz : exps[k].sz ≤ 1048576 := by have := exsSum_mem hmem; unfold exsSz at esz; omega
          have kf := flat_le_ex exps[k]
          have HT := hideP (exsFlat_take exps k hlk)
          have f1 : (exsFlat (exps.take k)).length ≤ 1048576 := by
            have h1 := flat_le_exs (exps.take k) fun e _ => flat_le_ex e
            have h2 := exsSz_take exps k
            omega
          have f0 : (allOf (F.take j)).length ≤ 1048576 := by omega
          have CK := hideP (l02Exps_any exps[k] w0 wr B _ hx bw ksz)
          clear hx hek bw hmem
          go_wp2_with fail
          refine CK.out.mono ?_
          rintro e2 w2 ⟨r2, ys, rfl, own2, rc2, bel2⟩
          have OWN2 := hideP own2
          have OWNR := hideP (hown.out.stays bel2)
          have RC2 := hideP rc2
          have BUT2 := hideP (hbut.out.on bel2)
          have hsw : W.heap.size ≤ w2.heap.size := Nat.le_trans (Nat.le_trans (Nat.le_of_lt hs2) hbut.out.size) bel2.size
          have hs12 : w1.heap.size ≤ w2.heap.size := Nat.le_trans hbut.out.size bel2.size
          clear own2 rc2 bel2 q0 q1 q2 qq3 q4 d3 CK
          go_wp2_with (at_builtin; refine list_appR Try.underlying39 infoEx rfl (by decide) (by decide) _ rfl _ _ rfl W.heap.size _ _ r2 _ _ xs2 ys rfl rfl OWNR.out OWN2.out (RC2.out.one one_ex) (by omega) hsw ?_; intro v3 w3 own3 grow3 loc3)
          have OWN3 : Hid (OwnR 41 5 w3 W.heap.size v3 ((allOf (F.take j)).length + (exsFlat (exps.take (k + 1))).length) (xs2 ++ ys)) := by
            show OwnR _ _ _ _ _ _ _
            rw [HT.out, List.length_append, ← Nat.add_assoc]; exact own3
          have RC3 : Hid (RC (ExIs w0 B) (xs2 ++ ys) (allOf (F.take j) ++ exsFlat (exps.take (k + 1)))) := by
            show RC _ _ _
            rw [HT.out, ← List.append_assoc]
            exact hrc.out.append RC2.out
          have BUT3 := hideP (BUT2.out.grown grow3 hblk.out)
          have BLK3 : Hid (∀ b, v3.ownBlock = some b → b = W.heap.size ∨ w1.heap.size ≤ b) := fun b hb => by
            rcases loc3 with e | e
            · rw [e] at hb; exact hblk.out b hb
            · rw [e] at hb; cases hb; exact Or.inr hs12
          clear own3 grow3 loc3 OWN2 OWNR RC2
          go_wp2
          go_roundw
          case rel => exact ⟨k + 1, xs2 ++ ys, by omega, by go_num, OWN3, RC3, BUT3, BLK3⟩
          case measure => simp [intOf]; omega
        · have hkn : k = exps.length := by omega
          subst hkn
          rw [List.take_length] at hown hrc
          have OWN3 : Hid (OwnR 41 5 wr W.heap.size u3 (allOf (F.take (j + 1))).length xs2) := by
            show OwnR _ _ _ _ _ _ _
            rw [HTK.out, List.length_append]; exact hown.out
          have RC3 : Hid (RC (ExIs w0 B) xs2 (allOf (F.take (j + 1)))) := by
            show RC _ _ _
            rw [HTK.out]; exact hrc.out
          clear hown hrc
          go_wp2
          go_roundw
          case rel => exact ⟨j + 1, xs2, by omega, by go_num, OWN3, RC3, hbut, hblk⟩
          case measure => simp [intOf]; omega
    · have hjn : j = F.length := by omega
      subst hjn
      rw [List.take_length] at hown hrc
      go_wp2
      go_ret
      exact ⟨_, xs, rfl, by rw [HF.out]; exact hown.out.mono AL.out.size, by rw [HF.out]; exact hrc.out, BWw.out.trans (hbut.out.below (show w.heap.size ≤ W.heap.size from AL.out.size) BWw.out.size)⟩
end Go.Proofs.Ytdkdimklacblaah
