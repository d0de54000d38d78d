/- What constablekeep.Binds answers. -/
import Derived.Test.YtakhcifhfbiopaaSubA
namespace Go.Proofs.Ytakhcifhfbiopaa.Sb
open Go.RowKit
open V

theorem list_ne {xs ys : List Bb} {k : Nat} (hx : k < xs.length) (hy : k < ys.length) (h : xs[k] ≠ ys[k]) : xs ≠ ys := by
  intro e
  subst e
  exact h rfl
theorem take_same {xs ys : List Bb} {k : Nat} (hx : k < xs.length) (hy : k < ys.length) (h : xs[k] = ys[k]) (hp : xs.take k = ys.take k) : xs.take (k + 1) = ys.take (k + 1) := by
  rw [List.take_succ_eq_append_getElem hx, List.take_succ_eq_append_getElem hy, hp, h]

end Go.Proofs.Ytakhcifhfbiopaa.Sb
