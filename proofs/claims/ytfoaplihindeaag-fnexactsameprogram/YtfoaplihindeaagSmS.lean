/- The contract of spec.l02Same: whether two lists of statements are alike. -/
import Derived.Test.YtfoaplihindeaagSmE
import Derived.Deep.RegionWith
namespace Go.Proofs.Ytfoaplihindeaag
open Go.ChangeShapes Go.WideShapes Go.ChangeAt Go.RowKit

def LsS (es : List St) : Prop := ∀ (es' : List St) (r : Bool) (w : World) (B1 B2 : Nat) (a1 a2 : Option Addr) (c1 c2 : Nat), (r = true ↔ es = es') → StsIs w B1 a1 es → StsIs w B2 a2 es' →
  Calls Try.prog 33 #[.slice a1 es.length c1, .slice a2 es'.length c2] w fun e w' => e = .returned (.bool r) ∧ ∃ q, w' = w.drewN q
def LsInS : St → Prop
  | .mk _ _ _ _ xs ys => LsS xs ∧ LsS ys
theorem bool_of (p : Prop) : ∃ r : Bool, (r = true ↔ p) := by
  by_cases h : p
  · exact ⟨true, fun _ => h, fun _ => rfl⟩
  · exact ⟨false, fun h0 => Bool.noConfusion h0, fun h0 => absurd h0 h⟩
set_option maxRecDepth 100000 in
set_option maxHeartbeats 16000000 in
theorem l02Same_of (es : List St) (ih : ∀ e ∈ es, LsInS e) : LsS es := by
  intro es' r w B1 B2 a1 a2 c1 c2 hr h1 h2
  have hm := maxLen_lt2
  have hl1 := h1.1
  have hl2 := h2.1
  by_cases hl : es.length = es'.length
  · have H1 := hideP h1
    have H2 := hideP h2
    have HR := hideP hr
    have IH := hideP ih
    rw [← hl]
    have HL := hideP hl
    clear h1 h2 hr ih hl
    go_enter Try.func33, Try.ntmps33
    go_wp2
    go_loopw [5] (fun i wr => ∃ j q : Nat, j ≤ es.length ∧ i = .int .i64 j ∧ wr = w.drewN q ∧ Hid (∀ k (hk : k < es.length) (hk' : k < es'.length), k < j → es[k] = es'[k])) (fun i _ => es.length - (intOf i).toNat)
    case atStart => exact ⟨0, 0, Nat.zero_le _, rfl, rfl, fun _ _ _ h => absurd h (Nat.not_lt_zero _)⟩
    case round =>
      obtain ⟨j, q, hj, rfl, rfl, hs⟩ := hrel
      by_cases hlt : j < es.length
      · have hlt2 : j < es'.length := by have := HL.out; omega
        obtain ⟨X, hX⟩ : ∃ X, w.drewN q = X := ⟨_, rfl⟩
        have bX : Below w.heap.size w X := by rw [← hX]; exact drewN_below w q
        obtain ⟨b, o, k, n, bs, exps, xs, ys, ea, ec, xa, xc, ya, yc, rfl, _, hb, he, p0, p1, p2, p3, p4, p5, hx⟩ := (H1.out.stays bX).get j hlt
        obtain ⟨b', o', k', n', bs', exps', xs', ys', ea', ec', xa', xc', ya', yc', rfl, _, hb', he', q0, q1, q2, q3, q4, q5, hx'⟩ := (H2.out.stays bX).get j hlt2
        have DR : Hid (∀ m, ∃ m', X.drewN m = w.drewN m') := fun m => ⟨q + m, by rw [← hX, World.drewN_drewN]⟩
        rw [hX]
        have hin := IH.out _ (List.getElem_mem hlt)
        rw [he] at hin
        obtain ⟨_, _, _, _, _, _, e6, hke, hkx, hky⟩ := hx.out
        obtain ⟨_, _, _, _, _, _, e7, hke', hkx', hky'⟩ := hx'.out
        cases e6
        cases e7
        have HE := hideP he
        have HE' := hideP he'
        have NO : Hid (St.mk k n bs exps xs ys ≠ St.mk k' n' bs' exps' xs' ys' → r = false) := fun hne => by
          rw [← Bool.not_eq_true]
          intro hh
          have e := HR.out.1 hh
          subst e
          exact hne (he.symm.trans he')
        obtain ⟨re, hre⟩ := bool_of (exps = exps')
        obtain ⟨rx, hrx⟩ := bool_of (xs = xs')
        obtain ⟨ry, hry⟩ := bool_of (ys = ys')
        have CE : Hid (∀ m, Calls Try.prog 42 #[.slice ea exps.length ec, .slice ea' exps'.length ec'] (X.drewN m) fun e w' => e = .returned (.bool re) ∧ ∃ q2, w' = (X.drewN m).drewN q2) := fun m =>
          l02SameExps_any exps exps' re (X.drewN m) B1 B2 ea ea' ec ec' hre (hke.stays (drewN_below X m)) (hke'.stays (drewN_below X m))
        have CX : Hid (∀ m, Calls Try.prog 33 #[.slice xa xs.length xc, .slice xa' xs'.length xc'] (X.drewN m) fun e w' => e = .returned (.bool rx) ∧ ∃ q2, w' = (X.drewN m).drewN q2) := fun m =>
          hin.1 xs' rx (X.drewN m) B1 B2 xa xa' xc xc' hrx (hkx.stays (drewN_below X m)) (hkx'.stays (drewN_below X m))
        have CY : Hid (∀ m, Calls Try.prog 33 #[.slice ya ys.length yc, .slice ya' ys'.length yc'] (X.drewN m) fun e w' => e = .returned (.bool ry) ∧ ∃ q2, w' = (X.drewN m).drewN q2) := fun m =>
          hin.2 ys' ry (X.drewN m) B1 B2 ya ya' yc yc' hry (hky.stays (drewN_below X m)) (hky'.stays (drewN_below X m))
        have HRE := hideP hre
        have HRX := hideP hrx
        have HRY := hideP hry
        clear he he' hx hx' hin hkx hkx' hky hky' hke hke' hb hb' hX bX hre hrx hry
        by_cases e0 : k = k'
        · subst e0
          by_cases e1 : n = n'
          · subst e1
            by_cases e2 : bs = bs'
            · subst e2
              cases re with
              | false =>
                have hrf : Hid (r = false) := NO.out (fun h => by injection h with _ _ _ a1 a2 a3; exact Bool.noConfusion (HRE.out.2 a1))
                clear NO HRE HRX HRY
                go_wp2
                simp only [List.append]
                go_quiet (first | (go_at_call 42; refine Calls.quiet_of (CE.out _)) | (go_at_call_of 33 (Value.slice xa xs.length xc); refine Calls.quiet_of (CX.out _)) | (go_at_call_of 33 (Value.slice ya ys.length yc); refine Calls.quiet_of (CY.out _)))
                go_wp2
                go_ret
                exact ⟨by rw [hrf.out]; rfl, DR.out _⟩
              | true =>
                cases rx with
                | false =>
                  have hrf : Hid (r = false) := NO.out (fun h => by injection h with _ _ _ a1 a2 a3; exact Bool.noConfusion (HRX.out.2 a2))
                  clear NO HRE HRX HRY
                  go_wp2
                  simp only [List.append]
                  go_quiet (first | (go_at_call 42; refine Calls.quiet_of (CE.out _)) | (go_at_call_of 33 (Value.slice xa xs.length xc); refine Calls.quiet_of (CX.out _)) | (go_at_call_of 33 (Value.slice ya ys.length yc); refine Calls.quiet_of (CY.out _)))
                  go_wp2
                  go_ret
                  exact ⟨by rw [hrf.out]; rfl, DR.out _⟩
                | true =>
                  cases ry with
                  | false =>
                    have hrf : Hid (r = false) := NO.out (fun h => by injection h with _ _ _ a1 a2 a3; exact Bool.noConfusion (HRY.out.2 a3))
                    clear NO HRE HRX HRY
                    go_wp2
                    simp only [List.append]
                    go_quiet (first | (go_at_call 42; refine Calls.quiet_of (CE.out _)) | (go_at_call_of 33 (Value.slice xa xs.length xc); refine Calls.quiet_of (CX.out _)) | (go_at_call_of 33 (Value.slice ya ys.length yc); refine Calls.quiet_of (CY.out _)))
                    go_wp2
                    go_ret
                    exact ⟨by rw [hrf.out]; rfl, DR.out _⟩
                  | true =>
                    have HQ : Hid (St.mk k n bs exps xs ys = St.mk k n bs exps' xs' ys') := by show St.mk k n bs exps xs ys = St.mk k n bs exps' xs' ys'; rw [HRE.out.1 rfl, HRX.out.1 rfl, HRY.out.1 rfl]
                    clear NO HRE HRX HRY
                    go_wp2
                    simp only [List.append]
                    go_quiet (first | (go_at_call 42; refine Calls.quiet_of (CE.out _)) | (go_at_call_of 33 (Value.slice xa xs.length xc); refine Calls.quiet_of (CX.out _)) | (go_at_call_of 33 (Value.slice ya ys.length yc); refine Calls.quiet_of (CY.out _)))
                    go_wp2
                    go_roundw
                    case rel =>
                      obtain ⟨m', hm'⟩ := DR.out nq
                      refine ⟨j + 1, m', by omega, by go_num, hm', fun k2 hk hk' hkj => ?_⟩
                      by_cases e : k2 = j
                      · subst e; rw [HE.out, HE'.out, HQ.out]
                      · exact hs.out k2 hk hk' (by omega)
                    case measure => simp [intOf]; omega
            · have f2 : (bs != bs') = true := by rw [bne_iff_ne]; exact e2
              have hrf : Hid (r = false) := NO.out (fun h => by injection h; contradiction)
              clear NO HRE HRX HRY CE CX CY
              go_wp2
              simp only [List.append]
              go_quiet (fail)
              go_wp2
              go_ret
              exact ⟨by rw [hrf.out]; rfl, DR.out _⟩
          · have f1 : (n != n') = true := by rw [bne_iff_ne]; exact e1
            have hrf : Hid (r = false) := NO.out (fun h => by injection h; contradiction)
            clear NO HRE HRX HRY CE CX CY
            go_wp2
            simp only [List.append]
            go_quiet (fail)
            go_wp2
            go_ret
            exact ⟨by rw [hrf.out]; rfl, DR.out _⟩
        · have f0 : (k != k') = true := by rw [bne_iff_ne]; exact e0
          have hrf : Hid (r = false) := NO.out (fun h => by injection h; contradiction)
          clear NO HRE HRX HRY CE CX CY
          go_wp2
          simp only [List.append]
          go_quiet (fail)
          go_wp2
          go_ret
          exact ⟨by rw [hrf.out]; rfl, DR.out _⟩
      · have hrt : Hid (r = true) := HR.out.2 (List.ext_getElem HL.out fun i hi hi' => hs.out i hi hi' (by omega))
        go_wp2
        go_ret
        exact ⟨by rw [hrt.out]; rfl, q, rfl⟩
  · have hrf : Hid (r = false) := by
      show r = false
      rw [← Bool.not_eq_true]
      intro hh
      exact hl (by rw [hr.1 hh])
    have hl' : ¬ (es.length : Int) = (es'.length : Int) := by omega
    clear h1 h2 ih
    go_enter Try.func33, Try.ntmps33
    go_wp2
    go_ret
    exact ⟨by rw [hrf.out]; rfl, 0, rfl⟩
theorem l02Same_in (e : St) : LsInS e := by
  induction e using St.ind with
  | h k n b exps xs ys ihx ihy => exact ⟨l02Same_of xs ihx, l02Same_of ys ihy⟩
theorem l02Same_any (es : List St) : LsS es := l02Same_of es fun e _ => l02Same_in e
end Go.Proofs.Ytfoaplihindeaag
