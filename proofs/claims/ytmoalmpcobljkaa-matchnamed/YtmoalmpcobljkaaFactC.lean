/- The order of facts, cut into steps. No program in it. -/
import Derived.Test.YtmoalmpcobljkaaFactB
namespace Go.Proofs.Ytmoalmpcobljkaa
open Go.RowKit
open V

def or2 (x y : Int) : Int := if x ≠ 0 then x else y
theorem or2_x {x y : Int} (h : x ≠ 0) : or2 x y = x := if_pos h
theorem or2_y {y : Int} : or2 0 y = y := by simp [or2]

theorem lex_cons {α β : Type} {f : β → β → Int} {g : α → β} {xs ys : List α} {k : Nat} (hx : k < xs.length) (hy : k < ys.length) :
    lexL f ((xs.drop k).map g) ((ys.drop k).map g) = if f (g xs[k]) (g ys[k]) ≠ 0 then f (g xs[k]) (g ys[k]) else lexL f ((xs.drop (k + 1)).map g) ((ys.drop (k + 1)).map g) := by
  rw [List.drop_eq_getElem_cons hx, List.drop_eq_getElem_cons hy]; rfl
theorem lex_right {α β : Type} {f : β → β → Int} {g : α → β} {xs ys : List α} {k : Nat} (hx : k < xs.length) (hy : ys.length ≤ k) :
    lexL f ((xs.drop k).map g) ((ys.drop k).map g) = 1 := by
  rw [List.drop_eq_getElem_cons hx, List.drop_eq_nil_of_le hy]; rfl
theorem lex_left {α β : Type} {f : β → β → Int} {g : α → β} {xs ys : List α} {k : Nat} (hx : xs.length ≤ k) (hy : k < ys.length) :
    lexL f ((xs.drop k).map g) ((ys.drop k).map g) = -1 := by
  rw [List.drop_eq_getElem_cons hy, List.drop_eq_nil_of_le hx]; rfl
theorem lex_both {α β : Type} {f : β → β → Int} {g : α → β} {xs ys : List α} {k : Nat} (hx : xs.length ≤ k) (hy : ys.length ≤ k) :
    lexL f ((xs.drop k).map g) ((ys.drop k).map g) = 0 := by
  rw [List.drop_eq_nil_of_le hy, List.drop_eq_nil_of_le hx]; rfl

theorem cmpF_or (n n' : List UInt8) (xs ys : List Vl) : cmpF (n, xs) (n', ys) = if or2 (Lib.compareBytes n n') (Lib.compareInt xs.length ys.length) ≠ 0 then or2 (Lib.compareBytes n n') (Lib.compareInt xs.length ys.length) else lexL cmpV xs ys := by
  unfold cmpF or2
  simp only
  split
  · rfl
  · split <;> rfl

end Go.Proofs.Ytmoalmpcobljkaa
