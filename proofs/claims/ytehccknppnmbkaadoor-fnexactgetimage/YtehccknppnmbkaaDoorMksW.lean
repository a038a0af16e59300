/- The laws' marks on an image that a call owns: what they write, and that they find it again. -/
import Derived.Test.YtehccknppnmbkaaDoorMksA
import Derived.Test.YtehccknppnmbkaaDoorMarkW
namespace Go.Proofs.YtehccknppnmbkaaDoor
open Go.ChangeShapes Go.WideShapes Go.ChangeAt Go.RowKit
def w5 : List Bool := [false, false, false, false, false]
def wrdL (b o n : Nat) : List Cel := (List.range n).flatMap fun i => celL b (o + i * 5) w5
theorem wrdL_succ (b o n : Nat) : wrdL b o (n + 1) = wrdL b o n ++ celL b (o + n * 5) w5 := by simp [wrdL, List.range_succ]
theorem wrdL_len (b o : Nat) : ∀ n, (wrdL b o n).length = n * 5
  | 0 => rfl
  | n + 1 => by rw [wrdL_succ, List.length_append, wrdL_len b o n]; show _ + 5 = _; omega
theorem wrdL_mem {b o b' o' : Nat} {t : Bool} : ∀ {n : Nat}, (b', o', t) ∈ wrdL b o n → b' = b ∧ o ≤ o' ∧ o' < o + n * 5
  | 0, h => by simp [wrdL] at h
  | n + 1, h => by
    rw [wrdL_succ] at h
    rcases List.mem_append.1 h with h | h
    · obtain ⟨h1, h2, h3⟩ := wrdL_mem h
      exact ⟨h1, h2, by omega⟩
    · have := celL_mem h
      have e : w5.length = 5 := rfl
      omega
set_option maxHeartbeats 4000000 in
theorem markWordS_mks (n : Nat) (w : World) (k b o cap : Nat) (c : Array Value) (T : TypeId) (hh : w.heap[b]? = some (.cells c T (0, 0))) (hs : o + n * 5 ≤ c.size) (hk : k + n * 5 ≤ 100000000) :
    Calls Tryd.prog 31 #[.slice (some ⟨b, o, none⟩) n cap, .int .i64 k] w fun en w' => en = .returned (.int .i64 ((k + n * 5 : Nat) : Int)) ∧ Mks w w' (wrdL b o n) k := by
  have hb : b < w.heap.size := (Array.getElem?_eq_some_iff.1 hh).1
  have HH := hideP hh
  clear hh
  go_enter Tryd.func31, Tryd.ntmps31
  go_wp2
  go_loopg [1, 5] n (fun gk q i wr => ∃ j m : Nat, gk + j = n ∧ i = .int .i64 j ∧ q = .int .i64 m ∧ Hid (m = k + j * 5) ∧ Hid (Mks w wr (wrdL b o j) k))
  case atStart => exact ⟨0, k, by simp, rfl, rfl, show _ = _ by simp, Mks.nil w k⟩
  case round =>
    obtain ⟨j, m, hgk, rfl, rfl, hmk, hm⟩ := hrel
    by_cases hlt : j < n
    · obtain ⟨c1, h1, s1⟩ := hm.out.plain b c T HH.out
      have hmk' := hmk.out
      have hm1 : m + 5 ≤ 100000000 := by omega
      have hL0 : ∀ c ∈ wrdL b o j, c.1 < w.heap.size := fun c hc => by obtain ⟨b', o', t⟩ := c; have := wrdL_mem hc; simp; omega
      have hn0 : ∀ r t', (b, o + j * 5 + r, t') ∉ wrdL b o j := fun r t' ht => by have := wrdL_mem ht; omega
      have cc : ∀ r, r < 5 → ∃ u, wr.cell? ⟨b, o + j * 5 + r, none⟩ = some u := fun r hr => ⟨c1[o + j * 5 + r]'(by omega), by rw [(cells_of h1).1]; exact Array.getElem?_eq_getElem (by omega)⟩
      obtain ⟨u0, e0⟩ := cc 0 (by omega)
      obtain ⟨u1, e1⟩ := cc 1 (by omega)
      obtain ⟨u2, e2⟩ := cc 2 (by omega)
      obtain ⟨u3, e3⟩ := cc 3 (by omega)
      obtain ⟨u4, e4⟩ := cc 4 (by omega)
      rw [Nat.add_zero] at e0
      have f0 := (cells_of h1).2
      have hlen := wrdL_len b o j
      have M5 := hideP (Mks.sets HH.out w5 [.int .i64 (m : Int), .int .i64 ((m : Int) + 1), .int .i64 ((m : Int) + 1 + 1), .int .i64 ((m : Int) + 1 + 1 + 1), .int .i64 ((m : Int) + 1 + 1 + 1 + 1)] (wrdL b o j) wr (o + j * 5) hm.out hL0 rfl (fun r h h' => by
        rw [hlen, ← hmk']
        match r, h with
        | 0, _ => rfl
        | 1, _ => rfl
        | 2, _ => rfl
        | 3, _ => rfl
        | 4, _ => rfl) (fun r t' _ => hn0 r t') (by show o + j * 5 + 5 ≤ _; omega))
      clear h1 cc hmk'
      go_wp2
      go_roundg (n - (j + 1))
      case rel => exact ⟨j + 1, m + 5, by omega, by go_num, by go_num, show _ = _ by rw [hmk.out]; omega, by rw [wrdL_succ]; exact M5.out⟩
      case measure => omega
    · have hjn : j = n := by omega
      subst hjn
      go_wp2
      go_ret
      exact ⟨ret_int (by rw [hmk.out]), hm.out⟩
set_option maxHeartbeats 4000000 in
theorem heldWordS_mks (n : Nat) (w : World) (k b o cap : Nat) (hc : ∀ i r, i < n → r < 5 → w.cell? ⟨b, o + i * 5 + r, none⟩ = some (.int .i64 ((k + i * 5 + r : Nat) : Int))) (hk : k + n * 5 ≤ 100000000) :
    Calls Tryd.prog 37 #[.slice (some ⟨b, o, none⟩) n cap, .int .i64 k] w fun en w' => en = .returned (.int .i64 ((k + n * 5 : Nat) : Int)) ∧ w' = w := by
  have HC := hideP hc
  clear hc
  go_enter Tryd.func37, Tryd.ntmps37
  go_wp2
  go_loopg [1, 5] n (fun gk q i wr => ∃ j m : Nat, gk + j = n ∧ i = .int .i64 j ∧ q = .int .i64 m ∧ Hid (m = k + j * 5) ∧ wr = w)
  case atStart => exact ⟨0, k, by simp, rfl, rfl, show _ = _ by simp, rfl⟩
  case round =>
    obtain ⟨j, m, hgk, rfl, rfl, hmk, hwr⟩ := hrel
    obtain rfl := hwr.symm
    by_cases hlt : j < n
    · have hm1 : m + 5 ≤ 100000000 := by have := hmk.out; omega
      have e0 : w.cell? ⟨b, o + j * 5, none⟩ = some (.int .i64 (m : Int)) := by rw [show w.cell? ⟨b, o + j * 5, none⟩ = _ by simpa using HC.out j 0 hlt (by omega)]; congr 2; have := hmk.out; omega
      have e1 : w.cell? ⟨b, o + j * 5 + 1, none⟩ = some (.int .i64 ((m : Int) + 1)) := by rw [HC.out j 1 hlt (by omega)]; congr 2; have := hmk.out; omega
      have e2 : w.cell? ⟨b, o + j * 5 + 2, none⟩ = some (.int .i64 ((m : Int) + 1 + 1)) := by rw [HC.out j 2 hlt (by omega)]; congr 2; have := hmk.out; omega
      have e3 : w.cell? ⟨b, o + j * 5 + 3, none⟩ = some (.int .i64 ((m : Int) + 1 + 1 + 1)) := by rw [HC.out j 3 hlt (by omega)]; congr 2; have := hmk.out; omega
      have e4 : w.cell? ⟨b, o + j * 5 + 4, none⟩ = some (.int .i64 ((m : Int) + 1 + 1 + 1 + 1)) := by rw [HC.out j 4 hlt (by omega)]; congr 2; have := hmk.out; omega
      go_wp2
      go_roundg (n - (j + 1))
      case rel => exact ⟨j + 1, m + 5, by omega, by go_num, by go_num, show _ = _ by rw [hmk.out]; omega, rfl⟩
      case measure => omega
    · have hjn : j = n := by omega
      subst hjn
      go_wp2
      go_ret
      exact ⟨ret_int (by have := hmk.out; omega), rfl⟩
theorem markZ (w : World) (ad : Option Addr) (cap k : Nat) :
    Calls Tryd.prog 15 #[.slice ad 0 cap, .int .i64 k] w fun en w' => en = .returned (.int .i64 (k : Int)) ∧ w' = w := by
  go_enter Tryd.func15, Tryd.ntmps15
  go_wp2
  go_loop [1, 5] (fun q i => i = .int .i64 0 ∧ q = .int .i64 (k : Int)) (fun _ _ => 0)
  case atStart => exact ⟨rfl, rfl⟩
  case round =>
    obtain ⟨rfl, rfl⟩ := hrel
    go_wp2
    go_ret
    exact ⟨rfl, rfl⟩
theorem heldZ (w : World) (ad : Option Addr) (cap k : Nat) :
    Calls Tryd.prog 32 #[.slice ad 0 cap, .int .i64 k] w fun en w' => en = .returned (.int .i64 (k : Int)) ∧ w' = w := by
  go_enter Tryd.func32, Tryd.ntmps32
  go_wp2
  go_loop [1, 5] (fun q i => i = .int .i64 0 ∧ q = .int .i64 (k : Int)) (fun _ _ => 0)
  case atStart => exact ⟨rfl, rfl⟩
  case round =>
    obtain ⟨rfl, rfl⟩ := hrel
    go_wp2
    go_ret
    exact ⟨rfl, rfl⟩
theorem markWZ (w : World) (ad : Option Addr) (cap k : Nat) :
    Calls Tryd.prog 31 #[.slice ad 0 cap, .int .i64 k] w fun en w' => en = .returned (.int .i64 (k : Int)) ∧ w' = w := by
  go_enter Tryd.func31, Tryd.ntmps31
  go_wp2
  go_loop [1, 5] (fun q i => i = .int .i64 0 ∧ q = .int .i64 (k : Int)) (fun _ _ => 0)
  case atStart => exact ⟨rfl, rfl⟩
  case round =>
    obtain ⟨rfl, rfl⟩ := hrel
    go_wp2
    go_ret
    exact ⟨rfl, rfl⟩
theorem heldWZ (w : World) (ad : Option Addr) (cap k : Nat) :
    Calls Tryd.prog 37 #[.slice ad 0 cap, .int .i64 k] w fun en w' => en = .returned (.int .i64 (k : Int)) ∧ w' = w := by
  go_enter Tryd.func37, Tryd.ntmps37
  go_wp2
  go_loop [1, 5] (fun q i => i = .int .i64 0 ∧ q = .int .i64 (k : Int)) (fun _ _ => 0)
  case atStart => exact ⟨rfl, rfl⟩
  case round =>
    obtain ⟨rfl, rfl⟩ := hrel
    go_wp2
    go_ret
    exact ⟨rfl, rfl⟩
/-- Where a row lies: its block, where it begins there, how many elements. -/
structure Row3 where
  b : Nat
  o : Nat
  n : Nat
/-- How an image of one's own lies: its sizes and its words in blocks of their own. -/
structure MOwn (w : World) (v : Array Value) (S C : Row3) : Prop where
  val : ∃ ads caps p r adc capc, v = #[.slice ads S.n caps, .int .i64 p, .int .i64 r, .slice adc C.n capc] ∧ (S.n = 0 ∨ ads = some ⟨S.b, S.o, none⟩) ∧ (C.n = 0 ∨ adc = some ⟨C.b, C.o, none⟩)
  srow : 0 < S.n → ∃ c T, w.heap[S.b]? = some (.cells c T (0, 0)) ∧ S.o + S.n ≤ c.size
  crow : 0 < C.n → ∃ c T, w.heap[C.b]? = some (.cells c T (0, 0)) ∧ C.o + C.n * 5 ≤ c.size
  sc : 0 < S.n → 0 < C.n → S.b ≠ C.b
/-- Its cells that are marked. -/
def imL (S C : Row3) : List Cel := intL S.b S.o S.n ++ wrdL C.b C.o C.n
theorem imL_len (S C : Row3) : (imL S C).length = S.n + C.n * 5 := by rw [imL, List.length_append, intL_len, wrdL_len]
theorem MOwn.marked {w w' : World} {v : Array Value} {S C : Row3} {k : Nat} (h : MOwn w v S C) (hm : Mks w w' (imL S C) k) : MOwn w' v S C where
  val := h.val
  srow := fun hn => by
    obtain ⟨c, T, h1, h2⟩ := h.srow hn
    obtain ⟨c', h3, h4⟩ := hm.plain _ c T h1
    exact ⟨c', T, h3, by omega⟩
  crow := fun hn => by
    obtain ⟨c, T, h1, h2⟩ := h.crow hn
    obtain ⟨c', h3, h4⟩ := hm.plain _ c T h1
    exact ⟨c', T, h3, by omega⟩
  sc := h.sc
theorem MOwn.stays {w w' : World} {v : Array Value} {S C : Row3} (h : MOwn w v S C) (bel : Below w.heap.size w w') : MOwn w' v S C where
  val := h.val
  srow := fun hn => by
    obtain ⟨c, T, h1, h2⟩ := h.srow hn
    exact ⟨c, T, (bel.block _ (Array.getElem?_eq_some_iff.1 h1).1).trans h1, h2⟩
  crow := fun hn => by
    obtain ⟨c, T, h1, h2⟩ := h.crow hn
    exact ⟨c, T, (bel.block _ (Array.getElem?_eq_some_iff.1 h1).1).trans h1, h2⟩
  sc := h.sc
theorem MOwn.above {w w' : World} {v : Array Value} {S C : Row3} {B : Nat} (h : MOwn w v S C) (low : ∀ c ∈ imL S C, B ≤ c.1) (hk : ∀ k, B ≤ k → k < w.heap.size → w'.heap[k]? = w.heap[k]?) : MOwn w' v S C where
  val := h.val
  srow := fun hn => by
    obtain ⟨c, T, h1, h2⟩ := h.srow hn
    have hm : (S.b, S.o, false) ∈ imL S C := List.mem_append_left _ (by simp only [intL, List.mem_map, List.mem_range]; exact ⟨0, hn, by simp⟩)
    exact ⟨c, T, (hk _ (low _ hm) (Array.getElem?_eq_some_iff.1 h1).1).trans h1, h2⟩
  crow := fun hn => by
    obtain ⟨c, T, h1, h2⟩ := h.crow hn
    have hm : (C.b, C.o, false) ∈ imL S C := List.mem_append_right _ (by rw [wrdL, List.mem_flatMap]; exact ⟨0, by simpa using hn, by simp [celL, w5]⟩)
    exact ⟨c, T, (hk _ (low _ hm) (Array.getElem?_eq_some_iff.1 h1).1).trans h1, h2⟩
  sc := h.sc
/-- The marks are there. -/
def HereW (w : World) (L : List Cel) (k : Nat) : Prop := ∀ i (h : i < L.length), w.cell? ⟨L[i].1, L[i].2.1, none⟩ = some (mkV (k + i) L[i].2.2)
theorem HereW.left {w : World} {A B : List Cel} {k : Nat} (h : HereW w (A ++ B) k) : HereW w A k := fun i hi => by
  have := h i (by rw [List.length_append]; omega)
  rw [List.getElem_append_left hi] at this
  exact this
theorem HereW.right {w : World} {A B : List Cel} {k : Nat} (h : HereW w (A ++ B) k) : HereW w B (k + A.length) := fun i hi => by
  have := h (A.length + i) (by rw [List.length_append]; omega)
  rw [List.getElem_append_right (by omega)] at this
  simp only [Nat.add_sub_cancel_left] at this
  rw [← Nat.add_assoc] at this
  exact this
theorem HereW.stays {w w' : World} {L : List Cel} {k : Nat} (h : HereW w L k) (bel : Below w.heap.size w w') : HereW w' L k := fun i hi =>
  (bel.cell (p := ⟨L[i].1, L[i].2.1, none⟩) (World.block_lt_of_cell? w _ (h i hi))).trans (h i hi)
theorem HereW.int {w : World} {b o n k : Nat} (h : HereW w (intL b o n) k) (i : Nat) (hi : i < n) : w.cell? ⟨b, o + i, none⟩ = some (.int .i64 ((k + i : Nat) : Int)) := by
  have hl : i < (intL b o n).length := by rw [intL_len]; exact hi
  have h1 := h i hl
  have e : (intL b o n)[i] = (b, o + i, false) := by simp [intL]
  rw [e] at h1
  exact h1
theorem HereW.wrd {w : World} {b o k : Nat} : ∀ {n : Nat}, HereW w (wrdL b o n) k → ∀ i r, i < n → r < 5 → w.cell? ⟨b, o + i * 5 + r, none⟩ = some (.int .i64 ((k + i * 5 + r : Nat) : Int))
  | 0, _, i, _, hi, _ => absurd hi (Nat.not_lt_zero _)
  | n + 1, h, i, r, hi, hr => by
    rw [wrdL_succ] at h
    by_cases e : i < n
    · exact HereW.wrd h.left i r e hr
    · have e2 : i = n := by omega
      subst e2
      have h2 := h.right
      rw [wrdL_len] at h2
      have h3 := h2 r (by show r < 5; exact hr)
      match r, hr with
      | 0, _ => exact h3
      | 1, _ => exact h3
      | 2, _ => exact h3
      | 3, _ => exact h3
      | 4, _ => exact h3
set_option maxHeartbeats 4000000 in
theorem markImage_mks (w : World) (k : Nat) (v : Array Value) (S C : Row3) (h : MOwn w v S C) (hk : k + (imL S C).length ≤ 100000000) :
    Calls Tryd.prog 14 #[.agg v, .int .i64 k] w fun en w' => en = .returned (.int .i64 ((k + (imL S C).length : Nat) : Int)) ∧ Mks w w' (imL S C) k := by
  obtain ⟨⟨ads, caps, p, r, adc, capc, rfl, hs, hc⟩, srow, crow, hsc⟩ := h
  have hlen := imL_len S C
  rw [hlen] at hk
  have MS : Hid (∀ W, Below w.heap.size w W → Calls Tryd.prog 15 #[.slice ads S.n caps, .int .i64 k] W fun en w' => en = .returned (.int .i64 ((k + S.n : Nat) : Int)) ∧ Mks W w' (intL S.b S.o S.n) k) := fun W hW => by
    by_cases hn : S.n = 0
    · rw [hn]
      refine (markZ W ads caps k).mono ?_
      rintro e w' ⟨rfl, rfl⟩
      exact ⟨by simp, by simpa [intL] using Mks.nil _ k⟩
    · have e := hs.resolve_left hn
      subst e
      obtain ⟨c, T, hh, hz⟩ := srow (by omega)
      exact markIntS_mks S.n W k S.b S.o caps c T ((hW.block _ (Array.getElem?_eq_some_iff.1 hh).1).trans hh) (by omega) (by omega)
  have hLs : ∀ c ∈ intL S.b S.o S.n, c.1 < w.heap.size := fun c hc => by
    obtain ⟨b', o', t⟩ := c
    have h1 := intL_mem hc
    obtain ⟨c, T, hh, _⟩ := srow (by omega)
    simp only [h1.1]; exact (Array.getElem?_eq_some_iff.1 hh).1
  have MB : Hid (∀ W, Mks w W (intL S.b S.o S.n) k → Calls Tryd.prog 31 #[.slice adc C.n capc, .int .i64 ((k + S.n : Nat) : Int)] W fun en w' => en = .returned (.int .i64 ((k + S.n + C.n * 5 : Nat) : Int)) ∧ Mks W w' (wrdL C.b C.o C.n) (k + S.n)) := fun W hW => by
    by_cases hn : C.n = 0
    · rw [hn]
      refine (markWZ W adc capc (k + S.n)).mono ?_
      rintro e w' ⟨rfl, rfl⟩
      exact ⟨by simp, by simpa [wrdL] using Mks.nil _ _⟩
    · have e := hc.resolve_left hn
      subst e
      obtain ⟨c, T, hh, hz⟩ := crow (by omega)
      obtain ⟨c1, h1, s1⟩ := hW.plain C.b c T hh
      exact markWordS_mks C.n W (k + S.n) C.b C.o capc c1 T h1 (by omega) (by omega)
  have DIS : Hid (∀ b' o' t t', (b', o', t) ∈ intL S.b S.o S.n → (b', o', t') ∉ wrdL C.b C.o C.n) := fun b' o' t t' h1 h2 => by
    have h3 := intL_mem h1
    have h4 := wrdL_mem h2
    exact hsc (by omega) (by omega) (h3.1.symm.trans h4.1)
  have HLS := hideP hLs
  obtain ⟨m1, hm1⟩ : ∃ m1, k + S.n = m1 := ⟨_, rfl⟩
  obtain ⟨m2, hm2⟩ : ∃ m2, m1 + C.n * 5 = m2 := ⟨_, rfl⟩
  rw [hm1] at MS MB
  rw [hm2] at MB
  have FIN : Hid (k + (imL S C).length = m2) := by show _ = _; rw [hlen]; omega
  have HM1 := hideP hm1
  obtain ⟨cn, hcn⟩ : ∃ cn, C.n = cn := ⟨_, rfl⟩
  obtain ⟨sn, hsn⟩ : ∃ sn, S.n = sn := ⟨_, rfl⟩
  rw [FIN.out]
  simp only [hsn] at MS ⊢
  simp only [hcn] at MB ⊢
  have EI : Hid (imL S C = intL S.b S.o S.n ++ wrdL C.b C.o C.n) := rfl
  clear hlen hLs hs hc srow crow hsc hm1 hm2 hk
  go_enter Tryd.func14, Tryd.ntmps14
  go_wp2_with fail
  refine (MS.out _ ((Below.refl _ _).alloc (Nat.le_refl _) _)).mono ?_
  rintro y1 w1 ⟨rfl, mk1⟩
  have al := (Below.refl w.heap.size w).alloc (Nat.le_refl _) (.cells #[.slice ads sn caps, .int .i64 p, .int .i64 r, .slice adc cn capc] 32)
  have M1 := ((Mks.nil w k).on al).append mk1 (by simp) (by simp)
  rw [List.nil_append] at M1
  have nb : (w.alloc (.cells #[.slice ads sn caps, .int .i64 p, .int .i64 r, .slice adc cn capc] 32)).heap[w.heap.size]? = some (.cells #[.slice ads sn caps, .int .i64 p, .int .i64 r, .slice adc cn capc] 32) := by show (w.heap.push _)[w.heap.size]? = _; exact Array.getElem?_push_size
  have hz : w.heap.size < (w.alloc (.cells #[.slice ads sn caps, .int .i64 p, .int .i64 r, .slice adc cn capc] 32)).heap.size := by simp
  have p3 : w1.cell? ⟨w.heap.size, 3, none⟩ = some (.slice adc cn capc) := by
    rw [mk1.off w.heap.size 3 hz (fun t ht => by
      have h1 := HLS.out (w.heap.size, 3, t) (by rw [hsn]; exact ht)
      exact Nat.lt_irrefl _ h1), (cells_of nb).1]
    rfl
  have HM := hideP M1
  clear mk1 M1 nb hz al
  rw [hsn] at HLS
  go_wp2_with fail
  refine (MB.out _ (by rw [hsn]; exact HM.out)).mono ?_
  rintro y2 w2 ⟨rfl, mk2⟩
  have M2 := hideP (HM.out.append (by rw [intL_len, ← hsn, HM1.out]; exact mk2) HLS.out (by have := DIS.out; rw [hsn, hcn] at this; exact this))
  clear mk2 p3
  go_wp2
  go_ret
  exact ⟨rfl, by rw [EI.out, hsn, hcn]; exact M2.out⟩
set_option maxHeartbeats 4000000 in
theorem heldImage_mks (w : World) (k : Nat) (v : Array Value) (S C : Row3) (h : MOwn w v S C) (here : HereW w (imL S C) k) (hk : k + (imL S C).length ≤ 100000000) :
    Calls Tryd.prog 22 #[.agg v, .int .i64 k] w fun en w' => en = .returned (.int .i64 ((k + (imL S C).length : Nat) : Int)) ∧ Below w.heap.size w w' := by
  obtain ⟨⟨ads, caps, p, r, adc, capc, rfl, hs, hc⟩, srow, crow, hsc⟩ := h
  have hlen := imL_len S C
  rw [hlen] at hk
  have he1 : HereW w (intL S.b S.o S.n) k := HereW.left here
  have he2 : HereW w (wrdL C.b C.o C.n) (k + S.n) := by have := HereW.right here; rwa [intL_len] at this
  have MS : Hid (∀ W, Below w.heap.size w W → Calls Tryd.prog 32 #[.slice ads S.n caps, .int .i64 k] W fun en w' => en = .returned (.int .i64 ((k + S.n : Nat) : Int)) ∧ w' = W) := fun W hW => by
    by_cases hn : S.n = 0
    · rw [hn]
      refine (heldZ W ads caps k).mono ?_
      rintro e w' ⟨rfl, rfl⟩
      exact ⟨by simp, rfl⟩
    · have e := hs.resolve_left hn
      subst e
      exact heldIntS_mks S.n W k S.b S.o caps (fun i hi => (he1.stays hW).int i hi) (by omega)
  have MB : Hid (∀ W, Below w.heap.size w W → Calls Tryd.prog 37 #[.slice adc C.n capc, .int .i64 ((k + S.n : Nat) : Int)] W fun en w' => en = .returned (.int .i64 ((k + S.n + C.n * 5 : Nat) : Int)) ∧ w' = W) := fun W hW => by
    by_cases hn : C.n = 0
    · rw [hn]
      refine (heldWZ W adc capc (k + S.n)).mono ?_
      rintro e w' ⟨rfl, rfl⟩
      exact ⟨by simp, rfl⟩
    · have e := hc.resolve_left hn
      subst e
      exact heldWordS_mks C.n W (k + S.n) C.b C.o capc (fun i r hi hr => (he2.stays hW).wrd i r hi hr) (by omega)
  obtain ⟨m1, hm1⟩ : ∃ m1, k + S.n = m1 := ⟨_, rfl⟩
  obtain ⟨m2, hm2⟩ : ∃ m2, m1 + C.n * 5 = m2 := ⟨_, rfl⟩
  rw [hm1] at MS MB
  rw [hm2] at MB
  have FIN : Hid (k + (imL S C).length = m2) := by show _ = _; rw [hlen]; omega
  obtain ⟨cn, hcn⟩ : ∃ cn, C.n = cn := ⟨_, rfl⟩
  obtain ⟨sn, hsn⟩ : ∃ sn, S.n = sn := ⟨_, rfl⟩
  rw [FIN.out]
  simp only [hsn] at MS ⊢
  simp only [hcn] at MB ⊢
  have n1 : ¬ ((m1 : Nat) : Int) < 0 := by omega
  have n2 : ¬ ((m2 : Nat) : Int) < 0 := by omega
  have nb : (w.alloc (.cells #[.slice ads sn caps, .int .i64 p, .int .i64 r, .slice adc cn capc] 32)).heap[w.heap.size]? = some (.cells #[.slice ads sn caps, .int .i64 p, .int .i64 r, .slice adc cn capc] 32) := by show (w.heap.push _)[w.heap.size]? = _; exact Array.getElem?_push_size
  have p3 := (cells_of nb).1 3
  simp at p3
  clear hlen hs hc srow crow hsc hm1 hm2 hk he1 he2 nb here
  go_enter Tryd.func22, Tryd.ntmps22
  go_wp2_with fail
  refine (MS.out _ ((Below.refl _ _).alloc (Nat.le_refl _) _)).mono ?_
  rintro y1 w1 ⟨rfl, hw⟩
  have hw1 := hw.symm
  subst hw1
  clear hw
  go_wp2_with fail
  refine (MB.out _ ((Below.refl _ _).alloc (Nat.le_refl _) _)).mono ?_
  rintro y2 w2 ⟨rfl, hw⟩
  have hw2 := hw.symm
  subst hw2
  clear hw p3
  go_wp2
  go_ret
  exact ⟨rfl, (Below.refl _ _).alloc (Nat.le_refl _) _⟩
theorem RowAt.aboveW {w w' : World} {B : Nat} {a : Option Addr} {n sz : Nat} {vs : Nat → Array Value} (h : RowAt w B a n sz vs) (hz : w.heap.size ≤ w'.heap.size) (hk : ∀ k, B ≤ k → k < w.heap.size → w'.heap[k]? = w.heap[k]?) : RowAt w' B a n sz vs := by
  rcases h with h | ⟨b, o, ha, hB, hb, hp, hc⟩
  · exact Or.inl h
  · exact Or.inr ⟨b, o, ha, hB, Nat.lt_of_lt_of_le hb hz, fun h0 => let ⟨cs, T, h⟩ := hp h0; ⟨cs, T, (hk b hB hb).trans h⟩, fun i hi => ⟨(hc i hi).1, fun j hj => (World.cell?_of_block (a := ⟨b, o + i * sz + j, none⟩) (hk b hB hb)).trans ((hc i hi).2 j hj)⟩⟩
theorem IntsIs.aboveW {w w' : World} {B : Nat} {a : Option Addr} {zs : List Int} (h : IntsIs w B a zs) (hz : w.heap.size ≤ w'.heap.size) (hk : ∀ k, B ≤ k → k < w.heap.size → w'.heap[k]? = w.heap[k]?) : IntsIs w' B a zs := by
  obtain ⟨hl, h | ⟨b, o, ha, hB, hb, hp, hc⟩⟩ := h
  · exact ⟨hl, Or.inl h⟩
  · exact ⟨hl, Or.inr ⟨b, o, ha, hB, Nat.lt_of_lt_of_le hb hz, fun h0 => let ⟨cs, T, h⟩ := hp h0; ⟨cs, T, (hk b hB hb).trans h⟩, fun i hi => (World.cell?_of_block (a := ⟨b, o + i, none⟩) (hk b hB hb)).trans (hc i hi)⟩⟩
theorem ImgIs.above {w w' : World} {B : Nat} {v : Array Value} {x : Img} (h : ImgIs w B v x) (hz : w.heap.size ≤ w'.heap.size) (hk : ∀ k, B ≤ k → k < w.heap.size → w'.heap[k]? = w.heap[k]?) : ImgIs w' B v x := by
  obtain ⟨u, c, ub, cb, e, ok, hs, hl, vs, hr, hx⟩ := h
  exact ⟨u, c, ub, cb, e, ok, hs.aboveW hz hk, hl, vs, hr.aboveW hz hk, fun i hi => hx i hi⟩
end Go.Proofs.YtehccknppnmbkaaDoor
