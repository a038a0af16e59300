/- The contracts of the laws' marks on expressions and programs: numbers over numbers, texts over texts. -/
import Derived.Test.YtdkdimklacblaahOverB
import Derived.Test.YtdkdimklacblaahMarkT
import Derived.Test.YtdkdimklacblaahFlatA
import Derived.Deep.LoopGhost
import Derived.Deep.CutRange
namespace Go.Proofs.Ytdkdimklacblaah
open Go.ChangeShapes Go.WideShapes Go.ChangeAt Go.RowKit
/-- Cell o of the plain block b is so. -/
def Slot (w : World) (b o : Nat) (P : Value → Prop) : Prop := ∃ (c : Array Value) (ty : TypeId) (u : Value), w.heap[b]? = some (.cells c ty (0, 0)) ∧ c[o]? = some u ∧ P u
theorem Slot.over {w w' : World} {B T b o : Nat} {P P' : Value → Prop} (h : Slot w b o P) (hP : ∀ u u', P u → Like u u' → P' u') (ho : Over B T w w') : Slot w' b o P' := by
  obtain ⟨c, ty, u, hh, hc, hu⟩ := h
  obtain ⟨c', h', l'⟩ := ho.within b c ty hh
  obtain ⟨u', hu', hl⟩ := l' _ u hc
  exact ⟨c', ty, u', h', hu', hP u u' hu hl⟩
theorem Slot.stays {w w' : World} {b o : Nat} {P : Value → Prop} (h : Slot w b o P) (bel : Below w.heap.size w w') : Slot w' b o P := by
  obtain ⟨c, ty, u, hh, hc, hu⟩ := h
  exact ⟨c, ty, u, (bel.block b (Array.getElem?_eq_some_iff.1 hh).1).trans hh, hc, hu⟩
theorem Slot.cell {w : World} {b o : Nat} {P : Value → Prop} (h : Slot w b o P) : ∃ u, w.cell? ⟨b, o, none⟩ = some u ∧ w.frozen? ⟨b, o, none⟩ = false ∧ P u := by
  obtain ⟨c, ty, u, hh, hc, hu⟩ := h
  exact ⟨u, by rw [(cells_of hh).1, hc], (cells_of hh).2 o, hu⟩
theorem Slot.set {w : World} {B T b o : Nat} {P : Value → Prop} {v : Value} (h : Slot w b o P) (hB : B ≤ b) (hT : b < T) (hl : ∀ u, P u → Like u v) : Over B T w (w.setCell ⟨b, o, none⟩ v) := by
  obtain ⟨c, ty, u, hh, hc, hu⟩ := h
  exact (Over.refl B T w).set hB hT hh hc (hl u hu)
mutual
def exRoom (w : World) (B T : Nat) : Ex → Nat → Nat → Prop
  | .mk _ _ _ _ kids, b, o => B ≤ b ∧ b < T ∧ Slot w b o isI ∧ Slot w b (o + 1) isI ∧ Slot w b (o + 2) isI ∧ Slot w b (o + 3) isS ∧ ∃ ua ca, Slot w b (o + 4) (fun u => u = .slice ua kids.length ca) ∧ (kids.length = 0 ∨ ∃ b' o', ua = some ⟨b', o', none⟩ ∧ exsRoom w B T kids b' o')
def exsRoom (w : World) (B T : Nat) : List Ex → Nat → Nat → Prop
  | [], _, _ => True
  | e :: l, b, o => exRoom w B T e b o ∧ exsRoom w B T l b (o + 5)
end
mutual
def stRoom (w : World) (B T : Nat) : St → Nat → Nat → Prop
  | .mk _ _ _ exps xs ys, b, o => B ≤ b ∧ b < T ∧ Slot w b o isI ∧ Slot w b (o + 1) isI ∧ Slot w b (o + 2) isI ∧ (∃ ua ca, Slot w b (o + 3) (fun u => u = .slice ua exps.length ca) ∧ (exps.length = 0 ∨ ∃ b' o', ua = some ⟨b', o', none⟩ ∧ exsRoom w B T exps b' o')) ∧
    (∃ ua ca, Slot w b (o + 4) (fun u => u = .slice ua xs.length ca) ∧ (xs.length = 0 ∨ ∃ b' o', ua = some ⟨b', o', none⟩ ∧ stsRoom w B T xs b' o')) ∧ ∃ ua ca, Slot w b (o + 5) (fun u => u = .slice ua ys.length ca) ∧ (ys.length = 0 ∨ ∃ b' o', ua = some ⟨b', o', none⟩ ∧ stsRoom w B T ys b' o')
def stsRoom (w : World) (B T : Nat) : List St → Nat → Nat → Prop
  | [], _, _ => True
  | e :: l, b, o => stRoom w B T e b o ∧ stsRoom w B T l b (o + 6)
end
theorem exsRoom_at {w : World} {B T : Nat} : ∀ {l : List Ex} {b o : Nat}, exsRoom w B T l b o → ∀ i (h : i < l.length), exRoom w B T l[i] b (o + i * 5)
  | [], _, _, _, _, h => absurd h (Nat.not_lt_zero _)
  | e :: l, b, o, hr, 0, _ => by simpa using hr.1
  | e :: l, b, o, hr, i + 1, h => by
    have := exsRoom_at hr.2 i (by simpa using h)
    rw [show o + (i + 1) * 5 = o + 5 + i * 5 by omega]
    simpa using this
theorem exsRoom_mk {w : World} {B T : Nat} : ∀ {l : List Ex} {b o : Nat}, (∀ i (h : i < l.length), exRoom w B T l[i] b (o + i * 5)) → exsRoom w B T l b o
  | [], _, _, _ => trivial
  | e :: l, b, o, hr => ⟨by have := hr 0 (by simp); rw [Nat.zero_mul, Nat.add_zero] at this; exact this, exsRoom_mk fun i h => by
    have := hr (i + 1) (by simpa using h)
    rw [show o + (i + 1) * 5 = o + 5 + i * 5 by omega] at this
    simpa using this⟩
theorem stsRoom_at {w : World} {B T : Nat} : ∀ {l : List St} {b o : Nat}, stsRoom w B T l b o → ∀ i (h : i < l.length), stRoom w B T l[i] b (o + i * 6)
  | [], _, _, _, _, h => absurd h (Nat.not_lt_zero _)
  | e :: l, b, o, hr, 0, _ => by simpa using hr.1
  | e :: l, b, o, hr, i + 1, h => by
    have := stsRoom_at hr.2 i (by simpa using h)
    rw [show o + (i + 1) * 6 = o + 6 + i * 6 by omega]
    simpa using this
theorem stsRoom_mk {w : World} {B T : Nat} : ∀ {l : List St} {b o : Nat}, (∀ i (h : i < l.length), stRoom w B T l[i] b (o + i * 6)) → stsRoom w B T l b o
  | [], _, _, _ => trivial
  | e :: l, b, o, hr => ⟨by have := hr 0 (by simp); rw [Nat.zero_mul, Nat.add_zero] at this; exact this, stsRoom_mk fun i h => by
    have := hr (i + 1) (by simpa using h)
    rw [show o + (i + 1) * 6 = o + 6 + i * 6 by omega] at this
    simpa using this⟩
theorem sl_like {ua : Option Addr} {n ca : Nat} : ∀ u u', u = Value.slice ua n ca → Like u u' → u' = .slice ua n ca := fun _ _ h l => by subst h; exact l.slice
theorem exRoom_over {w w' : World} {B T : Nat} (ho : Over B T w w') (e : Ex) : ∀ b o, exRoom w B T e b o → exRoom w' B T e b o := by
  induction e using Ex.ind with
  | h k n b t kids ih =>
    rintro b o ⟨h1, h2, s0, s1, s2, s3, ua, ca, s4, hk⟩
    refine ⟨h1, h2, s0.over (fun _ _ => isI.like) ho, s1.over (fun _ _ => isI.like) ho, s2.over (fun _ _ => isI.like) ho, s3.over (fun _ _ => isS.like) ho, ua, ca, s4.over sl_like ho, hk.imp id ?_⟩
    rintro ⟨b', o', rfl, hr⟩
    exact ⟨b', o', rfl, exsRoom_mk fun i hi => ih _ (List.getElem_mem hi) _ _ (exsRoom_at hr i hi)⟩
theorem exsRoom_over {w w' : World} {B T : Nat} (ho : Over B T w w') {l : List Ex} {b o : Nat} (h : exsRoom w B T l b o) : exsRoom w' B T l b o := exsRoom_mk fun i hi => exRoom_over ho _ _ _ (exsRoom_at h i hi)
theorem stRoom_over {w w' : World} {B T : Nat} (ho : Over B T w w') (e : St) : ∀ b o, stRoom w B T e b o → stRoom w' B T e b o := by
  induction e using St.ind with
  | h k n b exps xs ys ihx ihy =>
    rintro b o ⟨h1, h2, s0, s1, s2, ⟨ua, ca, s3, hk⟩, ⟨ua', ca', s4, hk'⟩, ua2, ca2, s5, hk2⟩
    refine ⟨h1, h2, s0.over (fun _ _ => isI.like) ho, s1.over (fun _ _ => isI.like) ho, s2.over (fun _ _ => isI.like) ho, ⟨ua, ca, s3.over sl_like ho, hk.imp id ?_⟩, ⟨ua', ca', s4.over sl_like ho, hk'.imp id ?_⟩, ua2, ca2, s5.over sl_like ho, hk2.imp id ?_⟩
    · rintro ⟨b', o', rfl, hr⟩
      exact ⟨b', o', rfl, exsRoom_over ho hr⟩
    · rintro ⟨b', o', rfl, hr⟩
      exact ⟨b', o', rfl, stsRoom_mk fun i hi => ihx _ (List.getElem_mem hi) _ _ (stsRoom_at hr i hi)⟩
    · rintro ⟨b', o', rfl, hr⟩
      exact ⟨b', o', rfl, stsRoom_mk fun i hi => ihy _ (List.getElem_mem hi) _ _ (stsRoom_at hr i hi)⟩
theorem stsRoom_over {w w' : World} {B T : Nat} (ho : Over B T w w') {l : List St} {b o : Nat} (h : stsRoom w B T l b o) : stsRoom w' B T l b o := stsRoom_mk fun i hi => stRoom_over ho _ _ _ (stsRoom_at h i hi)
theorem Over.ofBelow {B T : Nat} {w w' : World} (h : Below w.heap.size w w') : Over B T w w' := (Over.refl B T w).on h
/-- The slice's rows lie in blocks of B .. T. -/
def rowE (w : World) (B T : Nat) (a : Option Addr) (es : List Ex) : Prop := es.length = 0 ∨ ∃ b o, a = some ⟨b, o, none⟩ ∧ exsRoom w B T es b o
def rowT (w : World) (B T : Nat) (a : Option Addr) (es : List St) : Prop := es.length = 0 ∨ ∃ b o, a = some ⟨b, o, none⟩ ∧ stsRoom w B T es b o
theorem rowE.over {w w' : World} {B T : Nat} {a : Option Addr} {es : List Ex} (h : rowE w B T a es) (ho : Over B T w w') : rowE w' B T a es := h.imp id fun ⟨b, o, e, hr⟩ => ⟨b, o, e, exsRoom_over ho hr⟩
theorem rowT.over {w w' : World} {B T : Nat} {a : Option Addr} {es : List St} (h : rowT w B T a es) (ho : Over B T w w') : rowT w' B T a es := h.imp id fun ⟨b, o, e, hr⟩ => ⟨b, o, e, stsRoom_over ho hr⟩
/-- Out of the tree as it lies. -/
theorem slot_of {w : World} {b o : Nat} {cs : Array Value} {T : TypeId} {u : Value} {P : Value → Prop} (hh : w.heap[b]? = some (.cells cs T (0, 0))) (hc : w.cell? ⟨b, o, none⟩ = some u) (hu : P u) : Slot w b o P :=
  ⟨cs, T, u, hh, by rw [(cells_of hh).1] at hc; exact hc, hu⟩
theorem exRoom_of {w : World} {B : Nat} (hB : 0 < B) (e : Ex) : ∀ (v : Array Value) (b o : Nat), ExIs w B v e → B ≤ b → b < w.heap.size → (∃ cs T, w.heap[b]? = some (.cells cs T (0, 0))) → (∀ j, j < 5 → w.cell? ⟨b, o + j, none⟩ = v[j]?) → exRoom w B w.heap.size e b o := by
  induction e using Ex.ind with
  | h k n bs t kids ih =>
    rintro v b o hx hb1 hb2 ⟨cs, T, hh⟩ hc
    cases hx with
    | mk _ _ _ _ _ a cap vs hl ht hrow hk =>
      refine ⟨hb1, hb2, slot_of hh (hc 0 (by omega)) ⟨_, rfl⟩, slot_of hh (hc 1 (by omega)) ⟨_, rfl⟩, slot_of hh (hc 2 (by omega)) ⟨_, rfl⟩, slot_of hh (hc 3 (by omega)) ⟨_, rfl⟩, a, cap, slot_of hh (hc 4 (by omega)) rfl, ?_⟩
      rcases hrow with h0 | ⟨b', o', rfl, hB', hb', hp, hcell⟩
      · exact Or.inl h0
      · exact Or.inr ⟨b', o', rfl, exsRoom_mk fun i hi => ih _ (List.getElem_mem hi) (vs i) b' (o' + i * 5) (hk i hi) hB' hb' (hp hB) (hcell i hi).2⟩
theorem rowE_of {w : World} {B : Nat} (hB : 0 < B) {a : Option Addr} {es : List Ex} (h : ExsIs w B a es) : rowE w B w.heap.size a es := by
  obtain ⟨_, vs, h0 | ⟨b', o', rfl, hB', hb', hp, hcell⟩, hk⟩ := h
  · exact Or.inl h0
  · exact Or.inr ⟨b', o', rfl, exsRoom_mk fun i hi => exRoom_of hB _ (vs i) b' (o' + i * 5) (hk i hi) hB' hb' (hp hB) (hcell i hi).2⟩
theorem stRoom_of {w : World} {B : Nat} (hB : 0 < B) (e : St) : ∀ (v : Array Value) (b o : Nat), StIs w B v e → B ≤ b → b < w.heap.size → (∃ cs T, w.heap[b]? = some (.cells cs T (0, 0))) → (∀ j, j < 6 → w.cell? ⟨b, o + j, none⟩ = v[j]?) → stRoom w B w.heap.size e b o := by
  induction e using St.ind with
  | h k n bs exps xs ys ihx ihy =>
    rintro v b o hx hb1 hb2 ⟨cs, T, hh⟩ hc
    cases hx with
    | mk _ _ _ _ _ _ a cap ax cx ay cy vx vy he hlx hly hrx hry hkx hky =>
      refine ⟨hb1, hb2, slot_of hh (hc 0 (by omega)) ⟨_, rfl⟩, slot_of hh (hc 1 (by omega)) ⟨_, rfl⟩, slot_of hh (hc 2 (by omega)) ⟨_, rfl⟩, ⟨a, cap, slot_of hh (hc 3 (by omega)) rfl, rowE_of hB he⟩, ⟨ax, cx, slot_of hh (hc 4 (by omega)) rfl, ?_⟩, ay, cy, slot_of hh (hc 5 (by omega)) rfl, ?_⟩
      · rcases hrx with h0 | ⟨b', o', rfl, hB', hb', hp, hcell⟩
        · exact Or.inl h0
        · exact Or.inr ⟨b', o', rfl, stsRoom_mk fun i hi => ihx _ (List.getElem_mem hi) (vx i) b' (o' + i * 6) (hkx i hi) hB' hb' (hp hB) (hcell i hi).2⟩
      · rcases hry with h0 | ⟨b', o', rfl, hB', hb', hp, hcell⟩
        · exact Or.inl h0
        · exact Or.inr ⟨b', o', rfl, stsRoom_mk fun i hi => ihy _ (List.getElem_mem hi) (vy i) b' (o' + i * 6) (hky i hi) hB' hb' (hp hB) (hcell i hi).2⟩
theorem rowT_of {w : World} {B : Nat} (hB : 0 < B) {a : Option Addr} {es : List St} (h : StsIs w B a es) : rowT w B w.heap.size a es := by
  obtain ⟨_, vs, h0 | ⟨b', o', rfl, hB', hb', hp, hcell⟩, hk⟩ := h
  · exact Or.inl h0
  · exact Or.inr ⟨b', o', rfl, stsRoom_mk fun i hi => stRoom_of hB _ (vs i) b' (o' + i * 6) (hk i hi) hB' hb' (hp hB) (hcell i hi).2⟩
/-- What markExpS does with a list. -/
def MkE (es : List Ex) : Prop := ∀ (w : World) (B T k : Nat) (a : Option Addr) (cap : Nat), rowE w B T a es → 0 < k → k + 4 * (exsFlat es).length ≤ 100000000 → es.length ≤ 100000000 →
  Calls Try.prog 45 #[.slice a es.length cap, .int .i64 k] w fun en w' => en = .returned (.int .i64 ((k + 4 * (exsFlat es).length : Nat) : Int)) ∧ Over B T w w'
def Ex.kidsOf : Ex → List Ex
  | .mk _ _ _ _ kids => kids
set_option maxHeartbeats 4000000 in
theorem markExpS_of (es : List Ex) (ih : ∀ e ∈ es, MkE e.kidsOf) : MkE es := by
  intro w B T k a cap h hk0 hk hn
  have IH := hideP ih
  clear ih
  go_enter Try.func45, Try.ntmps45
  go_wp2
  go_loopg [1, 5] es.length (fun gk q i wr => ∃ j m : Nat, gk + j = es.length ∧ i = .int .i64 j ∧ q = .int .i64 m ∧ Hid (m = k + 4 * (exsFlat (es.take j)).length) ∧ Hid (rowE wr B T a es) ∧ Hid (Over B T w wr))
  case atStart => exact ⟨0, k, by simp, rfl, rfl, show _ = _ by simp [exsFlat], h, Over.refl _ _ _⟩
  case round =>
    obtain ⟨j, m, hgk, rfl, rfl, hmk, hr, ho⟩ := hrel
    by_cases hlt : j < es.length
    · rcases hr.out with h0 | ⟨b, o, rfl, hroom⟩
      · omega
      · have hra := exsRoom_at hroom j hlt
        have hft := exsFlat_take es j hlt
        have hle : (exsFlat (es.take (j + 1))).length ≤ (exsFlat es).length := by
          conv => rhs; rw [← List.take_append_drop (j + 1) es, exsFlat_append, List.length_append]
          omega
        have hih := IH.out es[j] (List.getElem_mem hlt)
        obtain ⟨e, he⟩ : ∃ e, es[j] = e := ⟨_, rfl⟩
        rw [he] at hra hft hih
        obtain ⟨k0, n0, b0, t0, kids⟩ := e
        simp only [Ex.kidsOf] at hih
        obtain ⟨hB, hT, s0, s1, s2, s3, ua, ca, s4, hkk⟩ := hra
        have hfl : (Ex.mk k0 n0 b0 t0 kids).flat.length = 1 + (exsFlat kids).length := by simp [Ex.flat]; omega
        rw [hft, List.length_append, hfl] at hle
        have hml : kids.length ≤ (exsFlat kids).length := by
          have : ∀ l : List Ex, l.length ≤ (exsFlat l).length := by
            intro l
            induction l with
            | nil => simp
            | cons x l ih =>
              obtain ⟨k1, n1, b1, t1, ks⟩ := x
              simp [exsFlat, Ex.flat]; omega
          exact this kids
        have hm := hmk.out
        have hm0 : 0 < m := by omega
        have hm1 : m + 4 + 4 * (exsFlat kids).length ≤ 100000000 := by omega
        have HM2 : Hid (m + 4 + 4 * (exsFlat kids).length = k + 4 * (exsFlat (es.take (j + 1))).length) := by show _ = _; rw [hft, List.length_append, hfl]; omega
        obtain ⟨u0, c0, f0, _⟩ := s0.cell
        obtain ⟨u1, c1, f1, _⟩ := s1.cell
        obtain ⟨u2, c2, f2, _⟩ := s2.cell
        have o1 := s0.set (v := .int .i64 m) hB hT (fun u hu => Like.ints hu _)
        have s1' := s1.over (fun _ _ => isI.like) o1
        have o2 := s1'.set (v := .int .i64 ((m : Int) + 1)) hB hT (fun u hu => Like.ints hu _)
        have s2' := (s2.over (fun _ _ => isI.like) o1).over (fun _ _ => isI.like) o2
        have o3 := s2'.set (v := .int .i64 ((m : Int) + 1 + 1)) hB hT (fun u hu => Like.ints hu _)
        have O3 := hideP ((o1.trans o2).trans o3)
        have S3 := hideP s3
        have S4 := hideP s4
        have HIH := hideP hih
        have HKK := hideP hkk
        clear hft hle hih he hfl o1 o2 o3 s1' s2' s0 s1 s2 s3 s4 hkk hroom hm
        go_wp2_with fail
        have ekj : ((m : Int) + 1 + 1 + 1) = ((m + 3 : Nat) : Int) := by omega
        rw [ekj]
        clear ekj
        refine (markText_any (m + 3) _ (by omega) (by omega)).mono ?_
        rintro e1 w1 ⟨rfl, bel1⟩
        have o4 := O3.out.on bel1
        have s3 := S3.out.over (fun _ _ => isS.like) o4
        obtain ⟨u3, c3, f3, _⟩ := s3.cell
        have o5 := s3.set (v := .string (markS (m + 3))) hB hT (fun u hu => Like.texts hu _)
        have O5 := hideP (o4.trans o5)
        have s4 := S4.out.over sl_like O5.out
        obtain ⟨u4, c4, f4, rfl⟩ := s4.cell
        have hkk := (show rowE wr B T ua kids from HKK.out).over O5.out
        have HK5 := hideP hkk
        clear bel1 o4 o5 s3 s4 hkk c0 c1 c2 f0 f1 f2
        go_upto_region 12 with fail
        obtain ⟨w5, hw5⟩ : ∃ w5, w1.setCell ⟨b, o + j * 5 + 3, none⟩ (.string (markS (m + 3))) = w5 := ⟨_, rfl⟩
        rw [hw5] at c4 f4 HK5 O5 ⊢
        clear hw5 c3 f3
        go_wp2_with fail
        have ekj : ((m : Int) + 3 + 1) = ((m + 4 : Nat) : Int) := by omega
        rw [ekj]
        clear ekj
        refine (HIH.out w5 B T (m + 4) ua ca HK5.out (by omega) (by omega) (by omega)).mono ?_
        rintro e6 w6 ⟨rfl, o6⟩
        have O6 := hideP (O5.out.trans o6)
        obtain ⟨M, hM⟩ : ∃ M, m + 4 + 4 * (exsFlat kids).length = M := ⟨_, rfl⟩
        rw [hM] at HM2 ⊢
        clear o6 c4 f4 hM
        go_wp2
        go_roundg (es.length - (j + 1))
        case rel => exact ⟨j + 1, M, by omega, by go_num, rfl, HM2.out, hr.out.over O6.out, ho.out.trans O6.out⟩
        case measure => omega
    · have hjn : j = es.length := by omega
      subst hjn
      go_wp2
      go_ret
      exact ⟨ret_int (by rw [hmk.out, List.take_length]), ho.out⟩
theorem markExpS_in (e : Ex) : MkE e.kidsOf := by
  induction e using Ex.ind with
  | h k n b t kids ih => exact markExpS_of kids ih
theorem markExpS_any (es : List Ex) : MkE es := markExpS_of es fun e _ => markExpS_in e
end Go.Proofs.Ytdkdimklacblaah
