/- The contract of spec.l02SameExps: whether two lists of expressions are alike. -/
import Derived.Test.YtfoaplihindeaagTree
import Derived.Test.YtfoaplihindeaagRows
import Derived.WalkKit
import Derived.ProofKit
import Derived.WalkSpells
import Derived.WalkLawsBesides
import Derived.Deep.QuietTactic
import Derived.BigQuiet
import Derived.Deep.Draws
import Derived.Lib.Strings
namespace Go.Proofs.Ytfoaplihindeaag
open Go.ChangeShapes Go.WideShapes Go.ChangeAt Go.RowKit

theorem drewN_below (w : World) (q : Nat) : Below w.heap.size w (w.drewN q) := ⟨rfl, rfl, rfl, Nat.le_refl _, fun _ _ => rfl⟩
def LsE (es : List Ex) : Prop := ∀ (es' : List Ex) (r : Bool) (w : World) (B1 B2 : Nat) (a1 a2 : Option Addr) (c1 c2 : Nat), (r = true ↔ es = es') → ExsIs w B1 a1 es → ExsIs w B2 a2 es' →
  Calls Try.prog 42 #[.slice a1 es.length c1, .slice a2 es'.length c2] w fun e w' => e = .returned (.bool r) ∧ ∃ q, w' = w.drewN q
def LsIn : Ex → Prop
  | .mk _ _ _ _ kids => LsE kids
theorem maxLen_lt2 : maxLen ≤ 9223372036854775807 := by unfold maxLen; decide
set_option maxHeartbeats 8000000 in
theorem l02SameExps_of (es : List Ex) (ih : ∀ e ∈ es, LsIn e) : LsE es := by
  intro es' r w B1 B2 a1 a2 c1 c2 hr h1 h2
  have hm := maxLen_lt2
  have hl1 := h1.1
  have hl2 := h2.1
  by_cases hl : es.length = es'.length
  · have H1 := hideP h1
    have H2 := hideP h2
    have HR := hideP hr
    have IH := hideP ih
    rw [← hl]
    have HL := hideP hl
    clear h1 h2 hr ih hl
    go_enter Try.func42, Try.ntmps42
    go_wp2
    go_loopw [5] (fun i wr => ∃ j q : Nat, j ≤ es.length ∧ i = .int .i64 j ∧ wr = w.drewN q ∧ Hid (∀ k (hk : k < es.length) (hk' : k < es'.length), k < j → es[k] = es'[k])) (fun i _ => es.length - (intOf i).toNat)
    case atStart => exact ⟨0, 0, Nat.zero_le _, rfl, rfl, fun _ _ _ h => absurd h (Nat.not_lt_zero _)⟩
    case round =>
      obtain ⟨j, q, hj, rfl, rfl, hs⟩ := hrel
      by_cases hlt : j < es.length
      · have hlt2 : j < es'.length := by have := HL.out; omega
        obtain ⟨X, hX⟩ : ∃ X, w.drewN q = X := ⟨_, rfl⟩
        have bX : Below w.heap.size w X := by rw [← hX]; exact drewN_below w q
        obtain ⟨b, o, k, n, bs, t, kids, ka, kc, rfl, _, hb, he, p0, p1, p2, p3, p4, hx⟩ := (H1.out.stays bX).get j hlt
        obtain ⟨b', o', k', n', bs', t', kids', ka', kc', rfl, _, hb', he', q0, q1, q2, q3, q4, hx'⟩ := (H2.out.stays bX).get j hlt2
        have DR : Hid (∀ m, ∃ m', X.drewN m = w.drewN m') := fun m => ⟨q + m, by rw [← hX, World.drewN_drewN]⟩
        rw [hX]
        have hin := IH.out _ (List.getElem_mem hlt)
        rw [he] at hin
        obtain ⟨_, _, e6, _, hkx⟩ := hx.out
        obtain ⟨_, _, e7, _, hkx'⟩ := hx'.out
        cases e6
        cases e7
        have HE := hideP he
        have HE' := hideP he'
        have NO : Hid (Ex.mk k n bs t kids ≠ Ex.mk k' n' bs' t' kids' → r = false) := fun hne => by
          rw [← Bool.not_eq_true]
          intro hh
          have e := HR.out.1 hh
          subst e
          exact hne (he.symm.trans he')
        have HIN := hideP hin
        have HK := hideP hkx
        have HK' := hideP hkx'
        clear he he' hx hx' hin hkx hkx' hb hb' hX bX
        by_cases e0 : k = k'
        · subst e0
          by_cases e1 : n = n'
          · subst e1
            by_cases e2 : bs = bs'
            · subst e2
              by_cases e3 : t = t'
              · subst e3
                by_cases e4 : kids = kids'
                · have CK : Hid (∀ m, Calls Try.prog 42 #[.slice ka kids.length kc, .slice ka' kids'.length kc'] (X.drewN m) fun e w' => e = .returned (.bool true) ∧ ∃ q2, w' = (X.drewN m).drewN q2) := fun m =>
                    HIN.out kids' true (X.drewN m) B1 B2 ka ka' kc kc' ⟨fun _ => e4, fun _ => rfl⟩ (HK.out.stays (drewN_below X m)) (HK'.out.stays (drewN_below X m))
                  have HE4 := hideP e4
                  clear e4 HIN HK HK' NO
                  go_wp2
                  go_quiet (first | (go_at_call 42; refine Calls.quiet_of (CK.out _)))
                  go_wp2
                  go_roundw
                  case rel =>
                    obtain ⟨m', hm'⟩ := DR.out nq
                    refine ⟨j + 1, m', by omega, by go_num, hm', fun k2 hk hk' hkj => ?_⟩
                    by_cases e : k2 = j
                    · subst e; rw [HE.out, HE'.out, HE4.out]
                    · exact hs.out k2 hk hk' (by omega)
                  case measure => simp [intOf]; omega
                · have CK : Hid (∀ m, Calls Try.prog 42 #[.slice ka kids.length kc, .slice ka' kids'.length kc'] (X.drewN m) fun e w' => e = .returned (.bool false) ∧ ∃ q2, w' = (X.drewN m).drewN q2) := fun m =>
                    HIN.out kids' false (X.drewN m) B1 B2 ka ka' kc kc' ⟨fun h => Bool.noConfusion h, fun h => absurd h e4⟩ (HK.out.stays (drewN_below X m)) (HK'.out.stays (drewN_below X m))
                  have hrf : Hid (r = false) := NO.out (fun h => by injection h; contradiction)
                  clear e4 HIN HK HK' NO
                  go_wp2
                  go_quiet (first | (go_at_call 42; refine Calls.quiet_of (CK.out _)))
                  go_wp2
                  go_ret
                  exact ⟨by rw [hrf.out]; rfl, DR.out _⟩
              · have f3' : t.toList ≠ t'.toList := by intro h; exact e3 (by rw [Lib.toList_data, Lib.toList_data] at h; exact ByteArray.ext (Array.ext' h))
                have f3 : (t.toList == t'.toList) = false := by rw [beq_eq_false_iff_ne]; exact f3'
                have hrf : Hid (r = false) := NO.out (fun h => by injection h; contradiction)
                clear NO
                go_wp2
                go_quiet (fail)
                go_wp2
                go_ret
                exact ⟨by rw [hrf.out]; rfl, DR.out _⟩
            · have f2 : (bs != bs') = true := by rw [bne_iff_ne]; exact e2
              have hrf : Hid (r = false) := NO.out (fun h => by injection h; contradiction)
              clear NO
              go_wp2
              go_quiet (fail)
              go_wp2
              go_ret
              exact ⟨by rw [hrf.out]; rfl, DR.out _⟩
          · have f1 : (n != n') = true := by rw [bne_iff_ne]; exact e1
            have hrf : Hid (r = false) := NO.out (fun h => by injection h; contradiction)
            clear NO
            go_wp2
            go_quiet (fail)
            go_wp2
            go_ret
            exact ⟨by rw [hrf.out]; rfl, DR.out _⟩
        · have f0 : (k != k') = true := by rw [bne_iff_ne]; exact e0
          have hrf : Hid (r = false) := NO.out (fun h => by injection h; contradiction)
          clear NO
          go_wp2
          go_quiet (fail)
          go_wp2
          go_ret
          exact ⟨by rw [hrf.out]; rfl, DR.out _⟩
      · have hrt : Hid (r = true) := HR.out.2 (List.ext_getElem HL.out fun i hi hi' => hs.out i hi hi' (by omega))
        go_wp2
        go_ret
        exact ⟨by rw [hrt.out]; rfl, q, rfl⟩
  · have hrf : Hid (r = false) := by
      show r = false
      rw [← Bool.not_eq_true]
      intro hh
      exact hl (by rw [hr.1 hh])
    have hl' : ¬ (es.length : Int) = (es'.length : Int) := by omega
    clear h1 h2 ih
    go_enter Try.func42, Try.ntmps42
    go_wp2
    go_ret
    exact ⟨by rw [hrf.out]; rfl, 0, rfl⟩
theorem l02SameExps_in (e : Ex) : LsIn e := by
  induction e using Ex.ind with
  | h k n b t kids ih => exact l02SameExps_of kids ih
theorem l02SameExps_any (es : List Ex) : LsE es := l02SameExps_of es fun e _ => l02SameExps_in e
end Go.Proofs.Ytfoaplihindeaag
