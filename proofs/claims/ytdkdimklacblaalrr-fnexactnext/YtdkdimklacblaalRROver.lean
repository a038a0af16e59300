/- What the laws' marks do with a graph: numbers over numbers, texts over texts. -/
import Derived.Test.YtdkdimklacblaalRRGraphD
import Derived.Test.YtdkdimklacblaalRROverB
namespace Go.Proofs.YtdkdimklacblaalRR
open Go.ChangeShapes Go.WideShapes Go.ChangeAt Go.RowKit
theorem Over.sets {B T : Nat} {w0 : World} {g : Nat} {ty : TypeId} (hB : B ≤ g) (hT : g < T) : ∀ (l : List Value) (w : World) (p : Nat) (c : Array Value), w.heap[g]? = some (.cells c ty (0, 0)) → (∀ (r : Nat) (hr : r < l.length), ∃ u : Value, c[p + r]? = some u ∧ Like u l[r]) → Over B T w0 w → Over B T w0 (Go.Proofs.YtdkdimklacblaalRR.sets g w p l)
  | [], _, _, _, _, _, h => h
  | v :: l, w, p, c, hh, hl, h => by
    obtain ⟨u, hu, hlk⟩ := hl 0 (by simp)
    refine Over.sets hB hT l _ (p + 1) _ (heap_setCell_same w g p c ty v hh) (fun r hr => ?_) (h.set hB hT hh hu hlk)
    obtain ⟨u', hu', hlk'⟩ := hl (r + 1) (by simpa using hr)
    exact ⟨u', by rw [Array.getElem?_setIfInBounds, if_neg (by omega), ← hu']; congr 1; omega, by simpa using hlk'⟩
def insK (r : Nat) (u : Value) : Prop := if r < 6 then isI u else isS u
theorem insK.like {r : Nat} {u v : Value} (h : insK r u) (k : Like u v) : insK r v := by
  unfold insK at *
  split
  · rename_i hr; rw [if_pos hr] at h; exact h.like k
  · rename_i hr; rw [if_neg hr] at h; exact h.like k
def InsRoom (w : World) (B T : Nat) (a : Option Addr) (n : Nat) : Prop := Room w B T a n 7 fun _ r u => insK r u
def blkK (w : World) (B T : Nat) (xs : List Blk) (i r : Nat) (u : Value) : Prop := if r = 0 then ∃ (h : i < xs.length) (ua : Option Addr) (ca : Nat), u = .slice ua xs[i].code.length ca ∧ InsRoom w B T ua xs[i].code.length else isI u
def BlkRoom (w : World) (B T : Nat) (a : Option Addr) (xs : List Blk) : Prop := Room w B T a xs.length 5 (blkK w B T xs)
theorem InsRoom.over {w w' : World} {B T : Nat} {a : Option Addr} {n : Nat} (h : InsRoom w B T a n) (ho : Over B T w w') : InsRoom w' B T a n := Room.over h (fun _ _ _ _ _ _ k l => k.like l) ho
theorem BlkRoom.over {w w' : World} {B T : Nat} {a : Option Addr} {xs : List Blk} (h : BlkRoom w B T a xs) (ho : Over B T w w') : BlkRoom w' B T a xs :=
  Room.over h (fun i r u u' _ _ k l => by
    unfold blkK at *
    split
    · rename_i hr
      rw [if_pos hr] at k
      obtain ⟨hi, ua, ca, rfl, hm⟩ := k
      exact ⟨hi, ua, ca, l.slice, hm.over ho⟩
    · rename_i hr; rw [if_neg hr] at k; exact k.like l) ho
theorem InsRoom.stays {w w' : World} {B T : Nat} {a : Option Addr} {n : Nat} (h : InsRoom w B T a n) (bel : Below w.heap.size w w') : InsRoom w' B T a n := Room.stays h (fun _ _ _ _ _ k => k) bel
theorem BlkRoom.stays {w w' : World} {B T : Nat} {a : Option Addr} {xs : List Blk} (h : BlkRoom w B T a xs) (bel : Below w.heap.size w w') : BlkRoom w' B T a xs :=
  Room.stays h (fun i r u _ _ k => by
    unfold blkK at *
    split
    · rename_i hr
      rw [if_pos hr] at k
      obtain ⟨hi, ua, ca, rfl, hm⟩ := k
      exact ⟨hi, ua, ca, rfl, hm.stays bel⟩
    · rename_i hr; rw [if_neg hr] at k; exact k) bel
theorem InsRoom.of {w : World} {B : Nat} {a : Option Addr} {xs : List Ins} (h : SlIs InsIs 7 w B a xs) (hB : 0 < B) : InsRoom w B w.heap.size a xs.length := by
  obtain ⟨_, vs, h | ⟨b, o, ha, hb, hl, hp, hc⟩, hx⟩ := h
  · exact Or.inl h
  · obtain ⟨cs, T, hh⟩ := hp hB
    refine Or.inr ⟨b, o, cs, T, ha, hb, hl, hh, fun i r hi hr => ?_⟩
    have h1 := (hc i hi).2 r hr
    have h2 := hx i hi
    obtain ⟨x, hxe⟩ : ∃ x, xs[i] = x := ⟨_, rfl⟩
    rw [hxe] at h2
    obtain ⟨hv, _⟩ := h2
    rw [(cells_of hh).1, hv] at h1
    rw [h1]
    match r, hr with
    | 0, _ => exact ⟨_, rfl, _, rfl⟩
    | 1, _ => exact ⟨_, rfl, _, rfl⟩
    | 2, _ => exact ⟨_, rfl, _, rfl⟩
    | 3, _ => exact ⟨_, rfl, _, rfl⟩
    | 4, _ => exact ⟨_, rfl, _, rfl⟩
    | 5, _ => exact ⟨_, rfl, _, rfl⟩
    | 6, _ => exact ⟨_, rfl, _, rfl⟩
theorem BlkRoom.of {w : World} {B : Nat} {a : Option Addr} {xs : List Blk} (h : SlIs BlkIs 5 w B a xs) (hB : 0 < B) : BlkRoom w B w.heap.size a xs := by
  obtain ⟨_, vs, h | ⟨b, o, ha, hb, hl, hp, hc⟩, hx⟩ := h
  · exact Or.inl h
  · obtain ⟨cs, T, hh⟩ := hp hB
    refine Or.inr ⟨b, o, cs, T, ha, hb, hl, hh, fun i r hi hr => ?_⟩
    have h1 := (hc i hi).2 r hr
    have h2 := hx i hi
    obtain ⟨ucode, ccode, hv, _, hcode⟩ := h2
    rw [(cells_of hh).1, hv] at h1
    rw [h1]
    match r, hr with
    | 0, _ => exact ⟨_, rfl, hi, ucode, ccode, rfl, InsRoom.of hcode hB⟩
    | 1, _ => exact ⟨_, rfl, _, rfl⟩
    | 2, _ => exact ⟨_, rfl, _, rfl⟩
    | 3, _ => exact ⟨_, rfl, _, rfl⟩
    | 4, _ => exact ⟨_, rfl, _, rfl⟩
def GrRoom (w : World) (B T : Nat) (v : Array Value) (x : Gr) : Prop := ∃ (us : Option Addr) (cs : Nat) (ub : Option Addr) (cb : Nat), v = #[.slice us x.sizes.length cs, .int .i64 x.params, .int .i64 x.vars, .int .i64 x.slots, .slice ub x.blocks.length cb] ∧ IntRoom w B T us x.sizes.length ∧ BlkRoom w B T ub x.blocks
theorem GrRoom.of {w : World} {B : Nat} {v : Array Value} {x : Gr} (h : GrIs w B v x) (hB : 0 < B) : GrRoom w B w.heap.size v x := by
  obtain ⟨us, cs, ub, cb, e, _, h1, h2⟩ := h
  exact ⟨us, cs, ub, cb, e, IntRoom.of h1 hB, BlkRoom.of h2 hB⟩
theorem GrRoom.stays {w w' : World} {B T : Nat} {v : Array Value} {x : Gr} (h : GrRoom w B T v x) (bel : Below w.heap.size w w') : GrRoom w' B T v x := by
  obtain ⟨us, cs, ub, cb, e, h1, h2⟩ := h
  exact ⟨us, cs, ub, cb, e, h1.stays bel, h2.stays bel⟩
def BRoom (w : World) (B T : Nat) (v : Array Value) (x : Blk) : Prop := ∃ (ua : Option Addr) (ca : Nat), v = #[.slice ua x.code.length ca, .int .i64 x.jump, .int .i64 x.a, .int .i64 x.to, .int .i64 x.els] ∧ InsRoom w B T ua x.code.length
theorem BRoom.of {w : World} {B : Nat} {v : Array Value} {x : Blk} (h : BlkIs w B v x) (hB : 0 < B) : BRoom w B w.heap.size v x := by
  obtain ⟨ua, ca, e, _, h1⟩ := h
  exact ⟨ua, ca, e, InsRoom.of h1 hB⟩
theorem BRoom.stays {w w' : World} {B T : Nat} {v : Array Value} {x : Blk} (h : BRoom w B T v x) (bel : Below w.heap.size w w') : BRoom w' B T v x := by
  obtain ⟨ua, ca, e, h1⟩ := h
  exact ⟨ua, ca, e, h1.stays bel⟩
end Go.Proofs.YtdkdimklacblaalRR
