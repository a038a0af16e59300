/- The contract of spec.l03Zeros. -/
import Derived.Test.YtpkfbabgcinhhaaDoorCkD
import Derived.Test.YtpkfbabgcinhhaaDoorMcE
import Derived.Test.YtpkfbabgcinhhaaDoorCkJ
import Derived.Deep.CutRange
namespace Go.Proofs.YtpkfbabgcinhhaaDoor
open Go.ChangeShapes Go.WideShapes Go.ChangeAt Go.RowKit
set_option maxHeartbeats 1000000 in
theorem zeros_any (n : Nat) (w : World) (hn : n ≤ 1000000) :
    Calls Tryd.prog 32 #[.int .i64 n] w fun e w' => ∃ v', e = .returned v' ∧ OwnI w' w.heap.size v' (List.replicate n 0) ∧ Below w.heap.size w w' := by
  have O0 := hideP (own_lit w [] #[] w.heap.size 0 rfl rfl rfl (by simp))
  have B0 := hideP ((Below.refl w.heap.size w).alloc (Nat.le_refl _) (.cells #[] 3))
  go_enter Tryd.func32, Tryd.ntmps32
  go_wp2
  go_loopw [3, 4] (fun q i wr => ∃ j : Nat, j ≤ n ∧ i = .int .i64 j ∧ Hid (OwnI wr w.heap.size q (List.replicate j 0)) ∧ Hid (Below w.heap.size w wr)) (fun _ i _ => n - (intOf i).toNat)
  case atStart => exact ⟨0, Nat.zero_le _, rfl, O0.out, B0.out⟩
  case round =>
    obtain ⟨j, hj, rfl, ho, hb⟩ := hrel
    by_cases hlt : j < n
    · obtain ⟨g, c, rfl, _⟩ := id ho.out
      have al := (Below.refl wr.heap.size wr).alloc (Nat.le_refl _) (.cells #[.int .i64 0] 3)
      have OC := hideP (ho.out.stays al)
      have OD := hideP (own_lit wr [(0 : Int)] #[.int .i64 0] wr.heap.size 1 rfl rfl rfl (by simp))
      have BC := hideP (hb.out.alloc hb.out.size (.cells #[.int .i64 0] 3))
      have SC := hideP BC.out.size
      have hrl : (List.replicate j (0 : Int)).length = j := List.length_replicate
      clear al O0 B0
      go_wp2_with (at_builtin; refine list_appI _ rfl _ _ rfl w.heap.size _ (List.replicate j 0) [0] wr.heap.size 0 1 1 rfl rfl rfl OC.out OD.out.at (by rw [hrl]; simp; omega) SC.out ?_; intro v6 w6 o6 grow6 loc6)
      have B6 := hideP (BC.out.grown grow6 BC.out.size (fun b' hb' => by have := OC.out.low b' hb'; omega))
      rw [show List.replicate j (0 : Int) ++ [0] = List.replicate (j + 1) 0 by rw [List.replicate_succ']] at o6
      obtain ⟨g6, c6, rfl, _⟩ := id o6
      have O6 := hideP o6
      clear o6 grow6 loc6 hrl
      go_wp2
      go_roundw
      case rel => exact ⟨j + 1, by omega, by go_num, by simpa using O6, B6.out⟩
      case measure => simp [intOf]; omega
    · have hjn : j = n := by omega
      subst hjn
      go_wp2
      go_ret
      exact ⟨_, rfl, ho.out, hb.out⟩
end Go.Proofs.YtpkfbabgcinhhaaDoor

/- What the specification's run is at first: its variables and its regions as they are made. -/
namespace Go.Proofs.YtpkfbabgcinhhaaDoor
open Go.ChangeShapes Go.WideShapes Go.ChangeAt Go.RowKit
/-- append of given numbers to an empty list. -/
theorem run_appY {w : World} {B g0 : Nat} {ua : Option Addr} {l : List Int} (ca : Nat) (ty : TypeId) (h0 : w.heap[g0]? = some (.cells #[] 3 (0, 0))) (hB : B ≤ g0) (h : IntsIs w 0 ua l) (hn : l.length ≤ 8000000) :
    ∃ v' w', (Builtin.append_ #[22, 22] ty #[.slice (some ⟨g0, 0, none⟩) 0 0, .slice ua l.length ca]).run Tryd.prog w = .ok v' w' ∧ (∃ g c, v' = .slice (some ⟨g, 0, none⟩) l.length c ∧ OwnI w' B v' l) ∧ w.grownBy w' (some g0) := by
  have hl0 : g0 < w.heap.size := (Array.getElem?_eq_some_iff.1 h0).1
  obtain ⟨i0, hi, hz0, hz1, hz2⟩ := info_parts IntOk.info
  cases ua with
  | none =>
    have hnil : l = [] := by
      rcases h.2 with h1 | ⟨b, o, e, _⟩
      · exact List.eq_nil_of_length_eq_zero h1
      · cases e
    subst hnil
    exact ⟨_, _, run_app_none (P := Tryd.prog) w 22 ty 3 i0 IntOk.und hi g0 ca, ⟨g0, 0, rfl, own0 h0 hB⟩, World.grownBy.refl _ _⟩
  | some ad =>
    obtain ⟨g1, c1, e1, ow⟩ := own0 h0 hB
    have hm : 0 + l.length ≤ maxLen := by have : 8000000 ≤ maxLen := by unfold maxLen; decide
                                          omega
    obtain ⟨v', w', hr, ho, hg, hnil, _⟩ := run_append_own_at (P := Tryd.prog) w B 22 ty 3 i0 (.int .i64 0) 1 8 Tryd.underlying22 hi hz0 hz1 hz2 rfl (by omega) (.slice (some ⟨g0, 0, none⟩) 0 0) 0 [] ow ad l.length ca (l.map (Value.int .i64)) (by simp) (fun j u hj => by
        obtain ⟨hj1, hj2⟩ := List.getElem?_eq_some_iff.1 hj
        have hj3 : j < l.length := by simpa using hj1
        obtain ⟨b, o, e, _, _, hc⟩ := h.get j hj3
        cases e
        refine (congrArg w.cell? (addr_add' b o j)).trans (hc.trans ?_)
        refine congrArg some ?_
        rw [← hj2, List.getElem_map]) (fun u hu => by obtain ⟨x, _, rfl⟩ := List.mem_map.1 hu; rfl) hm (by omega) (by omega)
    rw [Nat.zero_add, List.nil_append] at ho
    obtain ⟨hlen, ⟨hv, _⟩ | ⟨g, cap, cur, hv, hr2⟩⟩ := id ho
    · exact absurd (hnil.1 hv).1 (by simp)
    · exact ⟨v', w', hr, ⟨g, cap, hv, g, cap, hv, ho⟩, hg⟩
theorem list_appY {ops : Array Oper} {o : Oper} {a : Act} {Q : Exit → Act → World → Prop} {rest : List Oper} (w : World) (hgd : o.guard = none) (s y : Operand) (ho : o.op = .call { callee := .builtin .append, args := #[s, y], argTypes := #[22, 22] })
    (B g0 : Nat) (ua : Option Addr) (ca : Nat) (l : List Int) (hs : a.eval s = .slice (some ⟨g0, 0, none⟩) 0 0) (hx : a.eval y = .slice ua l.length ca) (h0 : w.heap[g0]? = some (.cells #[] 3 (0, 0))) (hB : B ≤ g0) (h1 : IntsIs w 0 ua l) (hn : l.length ≤ 8000000)
    (h : ∀ g c w', OwnI w' B (.slice (some ⟨g, 0, none⟩) l.length c) l → w.grownBy w' (some g0) → wpList Tryd.prog ops Q rest (a.put o.dst (.slice (some ⟨g, 0, none⟩) l.length c)) w') :
    wpList Tryd.prog ops Q (o :: rest) a w := by
  refine wpList_plain hgd fun K hK => ?_
  obtain ⟨v', w', hr, ⟨g, c, rfl, r1⟩, r2⟩ := run_appY (B := B) ca o.type h0 hB h1 hn
  unfold Oper.wp execOp
  simp only [ho, resolve, invoke, builtin, Sem.run_bind, Sem.run_pure, Result.andThen_ok, List.map_toArray, List.map_cons, List.map_nil, hs, hx, hr]
  exact hK _ _ (h g c w' r1 r2)
/-- Rows as the elements of a list: block, length, cap. -/
def RwE : Elem (Nat × Nat × Nat) := { T := 22, ST := 75, sz := 1, bys := 24, z := .slice none 0 0, cs := fun x => [.slice (some ⟨x.1, 0, none⟩) x.2.1 x.2.2] }
theorem RwOk : RwE.Ok where
  und := Tryd.underlying75
  info := by kernel_rfl
  zs := rfl
  pos := by decide
  few := by decide
  len := fun _ => rfl
  one := fun x u hu => by simp [RwE] at hu; subst hu; rfl
theorem rwE_flat (l : List (Nat × Nat × Nat)) : l.flatMap RwE.cs = l.map (fun x => Value.slice (some ⟨x.1, 0, none⟩) x.2.1 x.2.2) := by
  induction l with
  | nil => rfl
  | cons x r ih => rw [List.flatMap_cons, ih]; rfl
def sBox (q : Value) (v n cv : Nat) (ui : Option Addr) (ni ci : Nat) (f : Int) : Array Value := #[q, .slice (some ⟨v, 0, none⟩) n cv, .slice ui ni ci, .int .i64 f, .int .i64 0, .bool false, .int .i64 0, .slice none 0 0]
/-- The run while its regions are made: some are there. -/
structure SrAt (w0 : World) (b v cv : Nat) (vs : List Int) (ui : Option Addr) (ni ci : Nat) (f : Int) (sz : List Int) (q : Value) (rows : List (Nat × Nat × Nat)) (w : World) : Prop where
  box : w.heap[b]? = some (.cells (sBox q v vs.length cv ui ni ci f) 77 (0, 0))
  vars : RowZ w v vs
  own : OwnN RwE w w0.heap.size q rows
  row : ∀ i (h : i < rows.length) (h2 : i < sz.length), rows[i].2.1 = sz[i].toNat ∧ RowZ w rows[i].1 (List.replicate sz[i].toNat 0) ∧ v < rows[i].1
  inc : ∀ i j (h : i < rows.length) (h2 : j < rows.length), i < j → rows[i].1 < rows[j].1
  lov : w0.heap.size ≤ v
  lob : w0.heap.size ≤ b
  bel : Below w0.heap.size w0 w
section
variable {w0 w w' : World} {b v cv : Nat} {vs : List Int} {ui : Option Addr} {ni ci : Nat} {f : Int} {sz : List Int} {q : Value} {rows : List (Nat × Nat × Nat)}
theorem SrAt.stays (h : SrAt w0 b v cv vs ui ni ci f sz q rows w) (k : Below w.heap.size w w') : SrAt w0 b v cv vs ui ni ci f sz q rows w' :=
  { box := (k.block _ (Array.getElem?_eq_some_iff.1 h.box).1).trans h.box
    vars := h.vars.keep (k.block _ h.vars.lt)
    own := h.own.keep (fun g _ hl => k.block g hl)
    row := fun i h1 h2 => ⟨(h.row i h1 h2).1, (h.row i h1 h2).2.1.keep (k.block _ (h.row i h1 h2).2.1.lt), (h.row i h1 h2).2.2⟩
    inc := h.inc, lov := h.lov, lob := h.lob
    bel := h.bel.trans (k.mono h.bel.size) }
theorem SrAt.drew (h : SrAt w0 b v cv vs ui ni ci f sz q rows w) : SrAt w0 b v cv vs ui ni ci f sz q rows w.drew := h.stays (Below.refl _ _).drew
theorem SrAt.cell0 (h : SrAt w0 b v cv vs ui ni ci f sz q rows w) : w.cell? ⟨b, 0, none⟩ = some q ∧ w.frozen? ⟨b, 0, none⟩ = false := ⟨(cells_of h.box).1 0, (cells_of h.box).2 0⟩
/-- A new row is made (its block g is new), the list grown, the box's cell written. -/
theorem SrAt.more (h : SrAt w0 b v cv vs ui ni ci f sz q rows w) (hr : rows.length < sz.length) {w1 w2 w3 : World} {g c : Nat} (k1 : Below w.heap.size w w1) (o1 : OwnI w1 w.heap.size (.slice (some ⟨g, 0, none⟩) (List.replicate sz[rows.length].toNat (0 : Int)).length c) (List.replicate sz[rows.length].toNat 0))
    (k2 : Below w1.heap.size w1 w2) {q2 : Value} (g3 : w2.grownBy w3 q.ownBlock) (o3 : OwnN RwE w3 w0.heap.size q2 (rows ++ [(g, sz[rows.length].toNat, c)])) :
    SrAt w0 b v cv vs ui ni ci f sz q2 (rows ++ [(g, sz[rows.length].toNat, c)]) (w3.setCell ⟨b, 0, none⟩ q2) ∧ w3.heap[b]? = some (.cells (sBox q v vs.length cv ui ni ci f) 77 (0, 0)) := by
  have hlw : ∀ x, q.ownBlock = some x → ∃ cur, w.heap[x]? = some (.cells cur 22 (0, 0)) := fun x e => by
    obtain ⟨_, ⟨h0, _⟩ | ⟨bb, cap, cur, hv, _, hh, _⟩⟩ := h.own
    · rw [h0] at e; simp [Value.ownBlock] at e
    · rw [hv] at e
      have e2 : bb = x := by simpa [Value.ownBlock] using e
      subst e2
      exact ⟨cur, hh⟩
  have h2 := (h.stays k1).stays k2
  have hlw2 : ∀ x, q.ownBlock = some x → ∃ cur, w2.heap[x]? = some (.cells cur 22 (0, 0)) := fun x e => by
    obtain ⟨cur, hc⟩ := hlw x e
    have l1 := (Array.getElem?_eq_some_iff.1 hc).1
    exact ⟨cur, (k2.block x (Nat.lt_of_lt_of_le l1 k1.size)).trans ((k1.block x l1).trans hc)⟩
  have oz : RowZ w2 g (List.replicate sz[rows.length].toNat 0) := (RowZ.of o1).keep (k2.block _ (RowZ.of o1).lt)
  have gB : w.heap.size ≤ g := (o1.low g rfl).1
  have neI : ∀ x l, RowZ w2 x l → x < w2.heap.size ∧ some x ≠ q.ownBlock := fun x l hz => ⟨hz.lt, fun e => by
    obtain ⟨cur, hc⟩ := hlw2 x e.symm
    exact hz.ne hc (by decide) rfl⟩
  have b3 : w3.heap[b]? = some (.cells (sBox q v vs.length cv ui ni ci f) 77 (0, 0)) := (g3.block b (Array.getElem?_eq_some_iff.1 h2.box).1 (fun e => by
    obtain ⟨cur, hc⟩ := hlw2 b e.symm
    exact typ_ne2 h2.box hc (by decide) rfl)).trans h2.box
  have kb := (But.refl b w3).set 0 q2
  have z3 : ∀ x l, RowZ w2 x l → RowZ (w3.setCell ⟨b, 0, none⟩ q2) x l := fun x l hz => by
    have z1 : RowZ w3 x l := hz.keep (g3.block x hz.lt (neI x l hz).2)
    exact z1.keep (kb.block x z1.lt (z1.ne b3 (by decide)))
  refine ⟨?_, b3⟩
  exact
    { box := by have := box_set b3 0 q2; exact this.trans (by simp [sBox])
      vars := z3 _ _ h2.vars
      own := by
        obtain ⟨hl, h0 | ⟨x, cap, cur, hv, hB, hh, hrr⟩⟩ := o3
        · exact ⟨hl, Or.inl h0⟩
        · exact ⟨hl, Or.inr ⟨x, cap, cur, hv, hB, keepQ hh kb (fun e => typ_ne2 hh b3 (by decide) e), hrr⟩⟩
      row := fun i h1 hs => by
        by_cases hi : i < rows.length
        · rw [List.getElem_append_left hi]
          exact ⟨(h2.row i hi hs).1, z3 _ _ (h2.row i hi hs).2.1, (h2.row i hi hs).2.2⟩
        · have e : i = rows.length := by simp at h1; omega
          subst e
          simp only [List.getElem_append_right (Nat.le_refl _), Nat.sub_self, List.getElem_cons_zero]
          exact ⟨trivial, z3 _ _ oz, Nat.lt_of_lt_of_le h.vars.lt gB⟩
      inc := fun i j h1 hj hij => by
        have hi : i < rows.length := by simp at hj; omega
        rw [List.getElem_append_left hi]
        by_cases hj2 : j < rows.length
        · rw [List.getElem_append_left hj2]; exact h.inc i j hi hj2 hij
        · have e : j = rows.length := by simp at hj; omega
          subst e
          simp only [List.getElem_append_right (Nat.le_refl _), Nat.sub_self, List.getElem_cons_zero]
          exact Nat.lt_of_lt_of_le (h.row i hi (by omega)).2.1.lt gB
      lov := h.lov, lob := h.lob
      bel := (h2.bel.trans (grown_below g3 (fun x e => (h2.own.low x e).1) h2.bel.size)).trans (kb.below h.lob (Nat.le_trans h2.bel.size g3.size)) }
theorem SrAt.more2 (h : SrAt w0 b v cv vs ui ni ci f sz q rows w) (hr : rows.length < sz.length) {z : Nat} (hz : sz[rows.length].toNat = z) {w1 w2 w3 : World} {g c : Nat} (k1 : Below w.heap.size w w1) (o1 : OwnI w1 w.heap.size (.slice (some ⟨g, 0, none⟩) (List.replicate z (0 : Int)).length c) (List.replicate z 0))
    (k2 : Below w1.heap.size w1 w2) {q2 : Value} (g3 : w2.grownBy w3 q.ownBlock) (o3 : OwnN RwE w3 w0.heap.size q2 (rows ++ [(g, z, c)])) :
    SrAt w0 b v cv vs ui ni ci f sz q2 (rows ++ [(g, z, c)]) (w3.setCell ⟨b, 0, none⟩ q2) ∧ w3.heap[b]? = some (.cells (sBox q v vs.length cv ui ni ci f) 77 (0, 0)) ∧ Below w0.heap.size w0 w3 := by
  subst hz
  obtain ⟨h1, h2⟩ := h.more hr k1 o1 k2 g3 o3
  have h4 := (h.stays k1).stays k2
  exact ⟨h1, h2, h4.bel.trans (grown_below g3 (fun x e => (h4.own.low x e).1) h4.bel.size)⟩
end
theorem newOb (w : World) (ob : Obj) : (w.alloc ob).heap[w.heap.size]? = some ob := by show (w.heap.push _)[w.heap.size]? = _; exact Array.getElem?_push_size
theorem one_row {w : World} {b : Nat} {x : Nat × Nat × Nat} (h : w.heap[b]? = some (.cells #[.slice (some ⟨x.1, 0, none⟩) x.2.1 x.2.2] 22 (0, 0))) : ∀ r, r < RwE.sz → w.cell? ⟨b, 0 + r, none⟩ = (RwE.cs x)[r]? := by
  intro r hr
  obtain rfl : r = 0 := by simp only [RwE] at hr; omega
  exact ((cells_of h).1 0).trans rfl
end Go.Proofs.YtpkfbabgcinhhaaDoor

/- The contract of spec.l03Start. -/
namespace Go.Proofs.YtpkfbabgcinhhaaDoor
open Go.ChangeShapes Go.WideShapes Go.ChangeAt Go.RowKit
set_option maxHeartbeats 8000000 in
set_option maxRecDepth 100000 in
theorem start_any (w : World) {us ua ui : Option Addr} (cs ca ci : Nat) {sz args input : List Int} (f : Int) (nz : Nat) (hs : IntsIs w 0 us sz) (ha : IntsIs w 0 ua args) (hz : ∀ z ∈ sz, 0 ≤ z ∧ z ≤ 1000000) (hn : sz.length ≤ 1000) (hv : args.length + nz ≤ 1000000) :
    Calls Tryd.prog 31 #[.slice us sz.length cs, .int .i64 ((args.length + nz : Nat) : Int), .slice ua args.length ca, .slice ui input.length ci, .int .i64 f] w fun e w' => ∃ b v cv q rows, e = .returned (.pointer (some ⟨b, 0, none⟩)) ∧ rows.length = sz.length ∧ SrAt w b v cv (args ++ List.replicate nz 0) ui input.length ci f sz q rows w' := by
  have hwr : (args.length : Int) + (nz : Int) - (args.length : Int) = (nz : Int) := by omega
  obtain ⟨vs, hvs⟩ : ∃ vs, args ++ List.replicate nz 0 = vs := ⟨_, rfl⟩
  have hvl : vs.length = args.length + nz := by rw [← hvs]; simp
  rw [hvs]
  have HV := hideP hvs
  have HL := hideP hvl
  clear hvs hvl
  have ow0 := hideP (show (w.alloc (.cells #[] 3)).heap[w.heap.size]? = some (.cells #[] 3 (0, 0)) by show (w.heap.push _)[w.heap.size]? = _; exact Array.getElem?_push_size)
  have al0 := (Below.refl w.heap.size w).alloc (Nat.le_refl _) (.cells #[] 3)
  have HA := hideP (IntsIs.stays ha al0)
  have AL := hideP al0
  have HS := hideP hs
  have HZ := hideP hz
  clear ha hs hz al0
  go_enter Tryd.func31, Tryd.ntmps31
  go_upto_region 1 with fail
  obtain ⟨W, hW⟩ : ∃ W, w.alloc (.cells #[] 3) = W := ⟨_, rfl⟩
  rw [hW] at ow0 HA AL
  have HW := hideP hW
  clear hW
  go_wp2_with (at_builtin; refine list_appY _ rfl _ _ rfl w.heap.size w.heap.size ua ca args rfl rfl (HW.out ▸ ow0.out) (Nat.le_refl _) (HW.out ▸ HA.out) (by omega) ?_; intro g c w2 o2 g2)
  have A2 := hideP (AL.out.trans (grown_below (HW.out ▸ g2) (fun x e => by cases e; exact Nat.le_refl _) AL.out.size))
  have O2 := hideP o2
  clear o2 g2
  go_wp2_with fail
  refine (zeros_any nz w2 (by omega)).mono ?_
  rintro e3 w3 ⟨v3, rfl, o3, b3⟩
  have A3 := hideP (A2.out.trans (b3.mono A2.out.size))
  have O3 := hideP (O2.out.stays b3)
  obtain ⟨gz, cz, rfl, hO3⟩ := id o3
  clear hO3
  have Z3 := hideP o3.at
  have hl3 : (List.replicate nz (0 : Int)).length = nz := List.length_replicate
  clear o3 b3 O2
  go_wp2_with (at_builtin; refine list_appI _ rfl _ _ rfl w.heap.size _ args (List.replicate nz 0) gz 0 nz cz hl3 rfl rfl O3.out Z3.out (by rw [hl3]; omega) A3.out.size ?_; intro v4 w4 o4 g4 l4; rw [HV.out] at o4; obtain ⟨v, cv, rfl, hO4⟩ := id o4; clear l4 hO4)
  have A4 := hideP (A3.out.trans (grown_below g4 (fun x e => (O3.out.low x e).1) A3.out.size))
  have O4 := hideP o4
  obtain ⟨b, hb⟩ : ∃ b, w4.heap.size = b := ⟨_, rfl⟩
  obtain ⟨w5, hw5⟩ : ∃ W, w4.alloc (.cells (sBox (.slice none 0 0) v vs.length cv ui input.length ci f) 77) = W := ⟨_, rfl⟩
  have S5 : Hid (SrAt w b v cv vs ui input.length ci f sz (.slice none 0 0) [] w5) := by
    have al := (Below.refl w4.heap.size w4).alloc (Nat.le_refl _) (.cells (sBox (.slice none 0 0) v vs.length cv ui input.length ci f) 77)
    rw [hw5] at al
    exact
      { box := by rw [← hb, ← hw5]; show (w4.heap.push _)[w4.heap.size]? = _; exact Array.getElem?_push_size
        vars := RowZ.of (o4.stays al)
        own := OwnN.nil
        row := fun i h => absurd h (Nat.not_lt_zero _)
        inc := fun i j h => absurd h (Nat.not_lt_zero _)
        lov := (o4.low v rfl).1
        lob := hb ▸ A4.out.size
        bel := A4.out.trans (al.mono A4.out.size) }
  have HB := hideP hb
  have HW5 := hideP hw5
  clear o4 g4 hb hw5
  unfold sBox at HW5
  rw [HW5.out, HB.out]
  have HV2 := HV
  go_loopw [12] (fun i wr => ∃ (j : Nat) (q : Value) (rows : List (Nat × Nat × Nat)), i = .int .i64 j ∧ Hid (rows.length = j ∧ j ≤ sz.length) ∧ Hid (SrAt w b v cv vs ui input.length ci f sz q rows wr)) (fun i _ => sz.length - (intOf i).toNat)
  case atStart => exact ⟨0, _, [], rfl, ⟨rfl, Nat.zero_le _⟩, S5.out⟩
  case round =>
    obtain ⟨j, q, rows, rfl, hj, hS⟩ := hrel
    obtain ⟨rfl, hj2⟩ := hj.out
    clear hj
    by_cases hlt : rows.length < sz.length
    · obtain ⟨bs, os, rfl, hbs, hbl, hc⟩ := HS.out.get rows.length hlt
      have zl := HZ.out _ (List.getElem_mem hlt)
      obtain ⟨z, hz⟩ : ∃ z, sz[rows.length].toNat = z := ⟨_, rfl⟩
      have hz2 : sz[rows.length] = (z : Int) := by omega
      have hz1 : z ≤ 1000000 := by omega
      rw [hz2] at hc
      clear hz2 zl hbs
      clear S5 HB HW5 A4 O4 hl3 Z3 O3 A3 A2 HW ow0 HA AL HV HL hwr
      go_upto_region 5 with fail
      have T := hideP hS.out.drew
      clear hS
      refine wp_region_held_drew (S := fun W => W.cell? ⟨bs, os + rows.length, none⟩ = some (.int .i64 (z : Int))) (by kernel_rfl) ((T.out.bel.cell (p := ⟨bs, os + rows.length, none⟩) hbl).trans hc) (fun hHeld => ?_)
      generalize wr.drew = X0 at T hHeld ⊢
      refine wpAnyH_take (i := 0) (v := (.pointer (some ⟨b, 0, none⟩))) rfl (by kernel_rfl) (by kernel_rfl) (by kernel_rfl) (fun _ _ _ h => h) (Or.inl ⟨by rfl, ?_⟩) hHeld ?_
      · (intro w hSw; (try dsimp only at hSw); go_simp)
      walk_nrm
      refine wpAnyH_take (i := 1) (v := (.pointer (some ⟨b, 0, none⟩))) rfl (by kernel_rfl) (by kernel_rfl) (by kernel_rfl) (fun _ _ _ h => h) (Or.inl ⟨by rfl, ?_⟩) hHeld ?_
      · (intro w hSw; (try dsimp only at hSw); go_simp)
      walk_nrm
      refine wpAnyH_take (i := 2) (v := (.pointer (some ⟨b, 0, none⟩))) rfl (by kernel_rfl) (by kernel_rfl) (by kernel_rfl) (fun _ _ _ h => h) (Or.inl ⟨by rfl, ?_⟩) hHeld ?_
      · (intro w hSw; (try dsimp only at hSw); go_simp)
      walk_nrm
      refine wpAnyH_take (i := 3) (v := (.pointer (some ⟨b, 0, none⟩))) rfl (by kernel_rfl) (by kernel_rfl) (by kernel_rfl) (fun _ _ _ h => h) (Or.inl ⟨by rfl, ?_⟩) hHeld ?_
      · (intro w hSw; (try dsimp only at hSw); go_simp)
      walk_nrm
      refine wpAnyH_take (i := 5) (v := (.slice (some ⟨bs, os, none⟩) sz.length cs)) rfl (by kernel_rfl) (by kernel_rfl) (by kernel_rfl) (fun _ _ _ h => h) (Or.inl ⟨by rfl, ?_⟩) hHeld ?_
      · (intro w hSw; (try dsimp only at hSw); go_simp)
      walk_nrm
      refine wpAnyH_take (i := 6) (v := (.int .i64 rows.length)) rfl (by kernel_rfl) (by kernel_rfl) (by kernel_rfl) (fun _ _ _ h => h) (Or.inl ⟨by rfl, ?_⟩) hHeld ?_
      · (intro w hSw; (try dsimp only at hSw); go_simp)
      walk_nrm
      refine wpAnyH_take (i := 7) (v := (.pointer (some ⟨bs, os + rows.length, none⟩))) rfl (by kernel_rfl) (by kernel_rfl) (by kernel_rfl) (fun _ _ _ h => h) (Or.inl ⟨by rfl, ?_⟩) hHeld ?_
      · (intro w hSw; (try dsimp only at hSw); go_simp)
      walk_nrm
      refine wpAnyH_take (i := 8) (v := (.int .i64 (z : Int))) rfl (by kernel_rfl) (by kernel_rfl) (by kernel_rfl) (fun _ _ _ h => h) (Or.inl ⟨by rfl, ?_⟩) hHeld ?_
      · (intro w hSw; (try dsimp only at hSw); go_simp)
      walk_nrm
      refine wpAnyH_ready (rs := [4, 9]) (by kernel_rfl) (by simp) ?_
      refine AllReadyH.cons rfl (fun K hK => ?_) (AllReadyH.cons rfl (fun K hK => ?_) (AllReadyH.nil))
      · have lc := T.out.cell0.1
        go_simp
        refine hK.out _ _ ((T.out.bel.cell (p := ⟨bs, os + rows.length, none⟩) hbl).trans hc) (fun hHeld => ?_)
        clear hK K
        clear lc
        refine wpAnyH_ready (rs := [9]) (by kernel_rfl) (by simp) ?_
        refine AllReadyH.cons rfl (fun K hK => ?_) (AllReadyH.nil)
        have lT := T
        go_simp
        go_at_call 32
        refine (zeros_any z _ hz1).mono ?_
        rintro ea wa ⟨va, rfl, oa, ba⟩
        obtain ⟨gz2, cz2, rfl, hoa⟩ := id oa
        clear hoa
        replace T := hideP (T.out.stays ba)
        have OA := hideP oa
        have BA := hideP ba
        clear oa ba
        go_wp2_with fail
        refine hK.out _ _ ((T.out.bel.cell (p := ⟨bs, os + rows.length, none⟩) hbl).trans hc) (fun hHeld => ?_)
        clear hK K
        refine wpAnyH_ready (rs := [10]) (by kernel_rfl) (by simp) ?_
        refine AllReadyH.cons rfl (fun K hK => ?_) (AllReadyH.nil)
        have al := (Below.refl wa.heap.size wa).alloc (Nat.le_refl _) (.cells #[.slice (some ⟨gz2, 0, none⟩) z cz2] 22)
        have NA := hideP (newOb wa (.cells #[.slice (some ⟨gz2, 0, none⟩) z cz2] 22))
        replace T := hideP (T.out.stays al)
        have BB := hideP al
        clear al
        go_simp
        refine hK.out _ _ ((T.out.bel.cell (p := ⟨bs, os + rows.length, none⟩) hbl).trans hc) (fun hHeld => ?_)
        clear hK K
        refine wpAnyH_ready (rs := [11]) (by kernel_rfl) (by simp) ?_
        refine AllReadyH.cons rfl (fun K hK => ?_) (AllReadyH.nil)
        refine step_appN RwOk _ rfl _ _ rfl w.heap.size _ rows (gz2, z, cz2) wa.heap.size 0 1 rfl rfl T.out.own (one_row (x := (gz2, z, cz2)) NA.out) (by omega) T.out.bel.size ?_
        intro v6 w6 o6 g6
        obtain ⟨u6, n6, c6, rfl⟩ := o6.shape
        obtain ⟨S6, b6, l6⟩ := lT.out.more2 hlt hz BA.out OA.out BB.out g6 o6
        have T6 := hideP S6
        have fc := (cells_of b6).2
        have f0 := (cells_of b6).1 0
        have L6 := hideP l6
        simp [sBox] at f0
        clear S6 o6 g6 NA T b6 l6
        go_wp2_with fail
        refine hK.out _ _ ((L6.out.cell (p := ⟨bs, os + rows.length, none⟩) hbl).trans hc) (fun hHeld => ?_)
        clear hK K
        refine wpAnyH_take (i := 12) (v := (.pointer (some ⟨b, 0, none⟩))) rfl (by kernel_rfl) (by kernel_rfl) (by kernel_rfl) (fun _ _ _ h => h) (Or.inl ⟨by rfl, ?_⟩) hHeld ?_
        · (intro w hSw; (try dsimp only at hSw); go_simp)
        walk_nrm
        refine wpAnyH_take (i := 13) (v := (.pointer (some ⟨b, 0, none⟩))) rfl (by kernel_rfl) (by kernel_rfl) (by kernel_rfl) (fun _ _ _ h => h) (Or.inl ⟨by rfl, ?_⟩) hHeld ?_
        · (intro w hSw; (try dsimp only at hSw); go_simp)
        walk_nrm
        refine wpAnyH_ready (rs := [14]) (by kernel_rfl) (by simp) ?_
        refine AllReadyH.cons rfl (fun K hK => ?_) (AllReadyH.nil)
        go_simp
        refine hK.out _ _ ((T6.out.bel.cell (p := ⟨bs, os + rows.length, none⟩) hbl).trans hc) (fun hHeld => ?_)
        clear hK K
        refine wpAnyH_done (by kernel_rfl) ?_ _
        clear hHeld f0 fc
        go_wp2_with fail
        go_roundw
        case rel => exact ⟨rows.length + 1, _, rows ++ [(gz2, z, cz2)], by go_num, ⟨by simp, hlt⟩, T6.out⟩
        case measure => simp [intOf]; omega
      · have lT := T
        go_simp
        go_at_call 32
        refine (zeros_any z _ hz1).mono ?_
        rintro ea wa ⟨va, rfl, oa, ba⟩
        obtain ⟨gz2, cz2, rfl, hoa⟩ := id oa
        clear hoa
        replace T := hideP (T.out.stays ba)
        have OA := hideP oa
        have BA := hideP ba
        clear oa ba
        go_wp2_with fail
        refine hK.out _ _ ((T.out.bel.cell (p := ⟨bs, os + rows.length, none⟩) hbl).trans hc) (fun hHeld => ?_)
        clear hK K
        refine wpAnyH_ready (rs := [4, 10]) (by kernel_rfl) (by simp) ?_
        refine AllReadyH.cons rfl (fun K hK => ?_) (AllReadyH.cons rfl (fun K hK => ?_) (AllReadyH.nil))
        · have lc := T.out.cell0.1
          go_simp
          refine hK.out _ _ ((T.out.bel.cell (p := ⟨bs, os + rows.length, none⟩) hbl).trans hc) (fun hHeld => ?_)
          clear hK K
          clear lc
          refine wpAnyH_ready (rs := [10]) (by kernel_rfl) (by simp) ?_
          refine AllReadyH.cons rfl (fun K hK => ?_) (AllReadyH.nil)
          have al := (Below.refl wa.heap.size wa).alloc (Nat.le_refl _) (.cells #[.slice (some ⟨gz2, 0, none⟩) z cz2] 22)
          have NA := hideP (newOb wa (.cells #[.slice (some ⟨gz2, 0, none⟩) z cz2] 22))
          replace T := hideP (T.out.stays al)
          have BB := hideP al
          clear al
          go_simp
          refine hK.out _ _ ((T.out.bel.cell (p := ⟨bs, os + rows.length, none⟩) hbl).trans hc) (fun hHeld => ?_)
          clear hK K
          refine wpAnyH_ready (rs := [11]) (by kernel_rfl) (by simp) ?_
          refine AllReadyH.cons rfl (fun K hK => ?_) (AllReadyH.nil)
          refine step_appN RwOk _ rfl _ _ rfl w.heap.size _ rows (gz2, z, cz2) wa.heap.size 0 1 rfl rfl T.out.own (one_row (x := (gz2, z, cz2)) NA.out) (by omega) T.out.bel.size ?_
          intro v6 w6 o6 g6
          obtain ⟨u6, n6, c6, rfl⟩ := o6.shape
          obtain ⟨S6, b6, l6⟩ := lT.out.more2 hlt hz BA.out OA.out BB.out g6 o6
          have T6 := hideP S6
          have fc := (cells_of b6).2
          have f0 := (cells_of b6).1 0
          have L6 := hideP l6
          simp [sBox] at f0
          clear S6 o6 g6 NA T b6 l6
          go_wp2_with fail
          refine hK.out _ _ ((L6.out.cell (p := ⟨bs, os + rows.length, none⟩) hbl).trans hc) (fun hHeld => ?_)
          clear hK K
          refine wpAnyH_take (i := 12) (v := (.pointer (some ⟨b, 0, none⟩))) rfl (by kernel_rfl) (by kernel_rfl) (by kernel_rfl) (fun _ _ _ h => h) (Or.inl ⟨by rfl, ?_⟩) hHeld ?_
          · (intro w hSw; (try dsimp only at hSw); go_simp)
          walk_nrm
          refine wpAnyH_take (i := 13) (v := (.pointer (some ⟨b, 0, none⟩))) rfl (by kernel_rfl) (by kernel_rfl) (by kernel_rfl) (fun _ _ _ h => h) (Or.inl ⟨by rfl, ?_⟩) hHeld ?_
          · (intro w hSw; (try dsimp only at hSw); go_simp)
          walk_nrm
          refine wpAnyH_ready (rs := [14]) (by kernel_rfl) (by simp) ?_
          refine AllReadyH.cons rfl (fun K hK => ?_) (AllReadyH.nil)
          go_simp
          refine hK.out _ _ ((T6.out.bel.cell (p := ⟨bs, os + rows.length, none⟩) hbl).trans hc) (fun hHeld => ?_)
          clear hK K
          refine wpAnyH_done (by kernel_rfl) ?_ _
          clear hHeld f0 fc
          go_wp2_with fail
          go_roundw
          case rel => exact ⟨rows.length + 1, _, rows ++ [(gz2, z, cz2)], by go_num, ⟨by simp, hlt⟩, T6.out⟩
          case measure => simp [intOf]; omega
        · have al := (Below.refl wa.heap.size wa).alloc (Nat.le_refl _) (.cells #[.slice (some ⟨gz2, 0, none⟩) z cz2] 22)
          have NA := hideP (newOb wa (.cells #[.slice (some ⟨gz2, 0, none⟩) z cz2] 22))
          replace T := hideP (T.out.stays al)
          have BB := hideP al
          clear al
          go_simp
          refine hK.out _ _ ((T.out.bel.cell (p := ⟨bs, os + rows.length, none⟩) hbl).trans hc) (fun hHeld => ?_)
          clear hK K
          refine wpAnyH_ready (rs := [4]) (by kernel_rfl) (by simp) ?_
          refine AllReadyH.cons rfl (fun K hK => ?_) (AllReadyH.nil)
          have lc := T.out.cell0.1
          go_simp
          refine hK.out _ _ ((T.out.bel.cell (p := ⟨bs, os + rows.length, none⟩) hbl).trans hc) (fun hHeld => ?_)
          clear hK K
          clear lc
          refine wpAnyH_ready (rs := [11]) (by kernel_rfl) (by simp) ?_
          refine AllReadyH.cons rfl (fun K hK => ?_) (AllReadyH.nil)
          refine step_appN RwOk _ rfl _ _ rfl w.heap.size _ rows (gz2, z, cz2) wa.heap.size 0 1 rfl rfl T.out.own (one_row (x := (gz2, z, cz2)) NA.out) (by omega) T.out.bel.size ?_
          intro v6 w6 o6 g6
          obtain ⟨u6, n6, c6, rfl⟩ := o6.shape
          obtain ⟨S6, b6, l6⟩ := lT.out.more2 hlt hz BA.out OA.out BB.out g6 o6
          have T6 := hideP S6
          have fc := (cells_of b6).2
          have f0 := (cells_of b6).1 0
          have L6 := hideP l6
          simp [sBox] at f0
          clear S6 o6 g6 NA T b6 l6
          go_wp2_with fail
          refine hK.out _ _ ((L6.out.cell (p := ⟨bs, os + rows.length, none⟩) hbl).trans hc) (fun hHeld => ?_)
          clear hK K
          refine wpAnyH_take (i := 12) (v := (.pointer (some ⟨b, 0, none⟩))) rfl (by kernel_rfl) (by kernel_rfl) (by kernel_rfl) (fun _ _ _ h => h) (Or.inl ⟨by rfl, ?_⟩) hHeld ?_
          · (intro w hSw; (try dsimp only at hSw); go_simp)
          walk_nrm
          refine wpAnyH_take (i := 13) (v := (.pointer (some ⟨b, 0, none⟩))) rfl (by kernel_rfl) (by kernel_rfl) (by kernel_rfl) (fun _ _ _ h => h) (Or.inl ⟨by rfl, ?_⟩) hHeld ?_
          · (intro w hSw; (try dsimp only at hSw); go_simp)
          walk_nrm
          refine wpAnyH_ready (rs := [14]) (by kernel_rfl) (by simp) ?_
          refine AllReadyH.cons rfl (fun K hK => ?_) (AllReadyH.nil)
          go_simp
          refine hK.out _ _ ((T6.out.bel.cell (p := ⟨bs, os + rows.length, none⟩) hbl).trans hc) (fun hHeld => ?_)
          clear hK K
          refine wpAnyH_done (by kernel_rfl) ?_ _
          clear hHeld f0 fc
          go_wp2_with fail
          go_roundw
          case rel => exact ⟨rows.length + 1, _, rows ++ [(gz2, z, cz2)], by go_num, ⟨by simp, hlt⟩, T6.out⟩
          case measure => simp [intOf]; omega
    · have hjn : rows.length = sz.length := by omega
      go_wp2_with fail
      go_ret
      exact ⟨b, v, cv, q, rows, rfl, hjn, hS.out⟩
end Go.Proofs.YtpkfbabgcinhhaaDoor

/- The specification's machine before the first word: its run and its registers, as they are made. -/
namespace Go.Proofs.YtpkfbabgcinhhaaDoor
open Go.ChangeShapes Go.WideShapes Go.ChangeAt Go.RowKit
theorem ownRows {w : World} {B : Nat} {q : Value} {rows : List (Nat × Nat × Nat)} (h : OwnN RwE w B q rows) (hne : 0 < rows.length) :
    ∃ m cm cs, q = .slice (some ⟨m, 0, none⟩) rows.length cm ∧ B ≤ m ∧ w.heap[m]? = some (.cells cs 22 (0, 0)) ∧ ∀ i (hi : i < rows.length), w.cell? ⟨m, i, none⟩ = some (.slice (some ⟨rows[i].1, 0, none⟩) rows[i].2.1 rows[i].2.2) := by
  obtain ⟨hl, ⟨_, h0⟩ | ⟨m, cap, cur, hv, hB, hh, hc, hm, hs, ht⟩⟩ := h
  · omega
  · refine ⟨m, cap, cur, hv, hB, hh, fun i hi => ?_⟩
    have ht2 : cur.toList.take (rows.length * 1) = rows.map (fun x => Value.slice (some ⟨x.1, 0, none⟩) x.2.1 x.2.2) := by rw [← rwE_flat]; exact ht
    have k1 : (cur.toList.take (rows.length * 1))[i]? = (rows.map (fun x => Value.slice (some ⟨x.1, 0, none⟩) x.2.1 x.2.2))[i]? := by rw [ht2]
    rw [List.getElem?_take_of_lt (by omega)] at k1
    refine ((cells_of hh).1 i).trans ?_
    simpa [hi] using k1
theorem mat_made {w0 w w2 : World} {b v cv r cr : Nat} {vs input g : List Int} {ui : Option Addr} {ci : Nat} {f : Int} {sz : List Int} {q : Value} {rows : List (Nat × Nat × Nat)} (h : SrAt w0 b v cv vs ui input.length ci f sz q rows w) (hl : rows.length = sz.length) (hne : 0 < sz.length)
    (hr : OwnI w2 w.heap.size (.slice (some ⟨r, 0, none⟩) g.length cr) g) (k : Below w.heap.size w w2) (hi : IntsIs w0 0 ui input) (hc : input.length ≤ ci ∧ input.length ≤ 1000000) :
    ∃ L : Lay, L.b = b ∧ L.r = r ∧ L.cr = cr ∧ MAt L w0.heap.size ui ci (.slice none 0 0) w2 { mem := sz.map (fun z => List.replicate z.toNat 0), vars := vs, input := input, fuel := f, code := 0, over := false, val := 0, out := [] } g := by
  have h2 := h.stays k
  obtain ⟨m, cm, cs, rfl, hB, hh, hx⟩ := ownRows h2.own (by omega)
  have gB := (hr.low r rfl).1
  have mb : ∀ i (hi : i < rows.length), (rows.getD i (0, 0, 0)) = rows[i] := fun i hi => by rw [List.getD_eq_getElem?_getD, List.getElem?_eq_getElem hi]; rfl
  have D1 : w0.heap.size ≤ w.heap.size := h.bel.size
  refine ⟨⟨b, r, v, m, fun i => (rows.getD i (0, 0, 0)).1, cr, cv, cm, fun i => (rows.getD i (0, 0, 0)).2.2⟩, rfl, rfl, rfl, ?_⟩
  exact
    { box := by rw [List.length_map, ← hl]; exact h2.box
      regs := RowZ.of hr
      vars := h2.vars
      rows := fun i hi => by
        have hi2 : i < sz.length := by simpa using hi
        have hi3 : i < rows.length := by omega
        obtain ⟨e1, e2, _⟩ := h2.row i hi3 hi2
        have e3 : (sz.map (fun z => List.replicate z.toNat (0 : Int)))[i] = List.replicate sz[i].toNat 0 := List.getElem_map _
        show RowZ w2 (rows.getD i (0, 0, 0)).1 _ ∧ w2.cell? ⟨m, i, none⟩ = some (.slice (some ⟨(rows.getD i (0, 0, 0)).1, 0, none⟩) _ (rows.getD i (0, 0, 0)).2.2)
        rw [mb i hi3]
        simp only [e3, List.length_replicate]
        exact ⟨e2, by rw [hx i hi3, e1]⟩
      mrow := ⟨cs, hh⟩
      inp := fun j hj => by
        obtain ⟨bb, o, e, _, hb, hcell⟩ := hi.get j hj
        exact ⟨bb, o, e, hb, Nat.lt_of_lt_of_le hb h2.bel.size, (h2.bel.cell (p := ⟨bb, o + j, none⟩) hb).trans hcell⟩
      icap := hc
      out := OwnN.nil
      lowB := h.lob
      lowR := Nat.le_trans D1 gB
      lowV := h.lov
      lowM := hB
      lowI := fun i hi => by
        have hi2 : i < sz.length := by simpa using hi
        have hi3 : i < rows.length := by omega
        show w0.heap.size ≤ (rows.getD i (0, 0, 0)).1
        rw [mb i hi3]
        have := (h.row i hi3 hi2).2.2
        have := h.lov
        omega
      rv := fun e => by
        have e2 : r = v := e
        have := h.vars.lt
        omega
      ri := fun i hi => by
        have hi2 : i < sz.length := by simpa using hi
        have hi3 : i < rows.length := by omega
        show (rows.getD i (0, 0, 0)).1 ≠ r ∧ (rows.getD i (0, 0, 0)).1 ≠ v
        rw [mb i hi3]
        have h3 := (h.row i hi3 hi2).2.2
        have h4 := (h.row i hi3 hi2).2.1.lt
        exact ⟨by omega, by omega⟩
      ij := fun i j hi hj => by
        have hi2 : i < sz.length := by simpa using hi
        have hj2 : j < sz.length := by simpa using hj
        show (rows.getD i (0, 0, 0)).1 = (rows.getD j (0, 0, 0)).1 → i = j
        rw [mb i (by omega), mb j (by omega)]
        intro e
        rcases Nat.lt_trichotomy i j with hij | hij | hij
        · have := h.inc i j (by omega) (by omega) hij; omega
        · exact hij
        · have := h.inc j i (by omega) (by omega) hij; omega
      oo := fun o e => by simp [Value.ownBlock] at e
      low := h2.bel.size }
end Go.Proofs.YtpkfbabgcinhhaaDoor
