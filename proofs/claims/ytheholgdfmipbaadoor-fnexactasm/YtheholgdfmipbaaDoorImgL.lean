/- What wrdOk says of each Op (written by wip/mkimg.py). -/
import Derived.Test.YtheholgdfmipbaaDoorImgP
namespace Go.Proofs.YtheholgdfmipbaaDoor
theorem wrd_0 {ns sl nc r a b n : Int} : wrdOk ns sl nc ⟨0, r, a, b, n⟩ = (belI r 16 && belI a 16 && belI b 16 && (a == 0 && b == 0)) := rfl
theorem wrd_1 {ns sl nc r a b n : Int} : wrdOk ns sl nc ⟨1, r, a, b, n⟩ = (belI r 16 && belI a 16 && belI b 16 && ((a == 0 && b == 0) && belI n sl)) := rfl
theorem wrd_2 {ns sl nc r a b n : Int} : wrdOk ns sl nc ⟨2, r, a, b, n⟩ = (belI r 16 && belI a 16 && belI b 16 && ((a == 0 && b == 0) && belI n sl)) := rfl
theorem wrd_3 {ns sl nc r a b n : Int} : wrdOk ns sl nc ⟨3, r, a, b, n⟩ = (belI r 16 && belI a 16 && belI b 16 && belI n 6) := rfl
theorem wrd_4 {ns sl nc r a b n : Int} : wrdOk ns sl nc ⟨4, r, a, b, n⟩ = (belI r 16 && belI a 16 && belI b 16 && ((b == 0) && belI n ns)) := rfl
theorem wrd_5 {ns sl nc r a b n : Int} : wrdOk ns sl nc ⟨5, r, a, b, n⟩ = (belI r 16 && belI a 16 && belI b 16 && ((b == 0) && belI n ns)) := rfl
theorem wrd_6 {ns sl nc r a b n : Int} : wrdOk ns sl nc ⟨6, r, a, b, n⟩ = (belI r 16 && belI a 16 && belI b 16 && ((a == 0 && b == 0) && (n == 0))) := rfl
theorem wrd_7 {ns sl nc r a b n : Int} : wrdOk ns sl nc ⟨7, r, a, b, n⟩ = (belI r 16 && belI a 16 && belI b 16 && ((a == 0 && b == 0) && (n == 0))) := rfl
theorem wrd_8 {ns sl nc r a b n : Int} : wrdOk ns sl nc ⟨8, r, a, b, n⟩ = (belI r 16 && belI a 16 && belI b 16 && ((r == 0 && (a == 0 && b == 0)) && belI n nc)) := rfl
theorem wrd_9 {ns sl nc r a b n : Int} : wrdOk ns sl nc ⟨9, r, a, b, n⟩ = (belI r 16 && belI a 16 && belI b 16 && ((a == 0 && b == 0) && belI n nc)) := rfl
theorem wrd_10 {ns sl nc r a b n : Int} : wrdOk ns sl nc ⟨10, r, a, b, n⟩ = (belI r 16 && belI a 16 && belI b 16 && ((a == 0 && b == 0) && (n == 0))) := rfl
theorem wrd_11 {ns sl nc r a b n : Int} : wrdOk ns sl nc ⟨11, r, a, b, n⟩ = (belI r 16 && belI a 16 && belI b 16 && (b == 0 && n == 0)) := rfl
theorem wrd_x {ns sl nc op r a b n : Int} (h0 : ¬ op = 0) (h1 : ¬ op = 1) (h2 : ¬ op = 2) (h3 : ¬ op = 3) (h4 : ¬ op = 4) (h5 : ¬ op = 5) (h6 : ¬ op = 6) (h7 : ¬ op = 7) (h8 : ¬ op = 8) (h9 : ¬ op = 9) (h10 : ¬ op = 10) (h11 : ¬ op = 11) : wrdOk ns sl nc ⟨op, r, a, b, n⟩ = false := by simp [wrdOk, h0, h1, h2, h3, h4, h5, h6, h7, h8, h9, h10, h11]
theorem wok_yes {r a b q : Bool} (hr : r = true) (ha : a = true) (hb : b = true) : (r && a && b && q) = q := by subst hr ha hb; rfl
theorem wok_no {r a b q : Bool} (hq : q = false) : (r && a && b && q) = false := by subst hq; simp
theorem wok_nr {r a b q : Bool} (hq : r = false) : (r && a && b && q) = false := by subst hq; rfl
theorem wok_na {r a b q : Bool} (hq : a = false) : (r && a && b && q) = false := by subst hq; simp
theorem wok_nb {r a b q : Bool} (hq : b = false) : (r && a && b && q) = false := by subst hq; simp
end Go.Proofs.YtheholgdfmipbaaDoor
