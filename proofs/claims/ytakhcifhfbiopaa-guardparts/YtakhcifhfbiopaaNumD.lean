/- What num.Sum returns, over any slice of numbers. -/
import Derived.Test.YtakhcifhfbiopaaNumC
namespace Go.Proofs.Ytakhcifhfbiopaa.N
open Go.RowKit

theorem sum_go {s n : Int} {r : List Int} {x y v e : Int} (h : doL 3 s n = (x, y)) (hs : sumL s (n :: r) = (v, e)) : (y = 0 ∧ sumL x r = (v, e)) ∨ (y ≠ 0 ∧ (0, y) = (v, e)) := by
  unfold sumL at hs
  rw [h] at hs
  by_cases hy : y = 0
  · exact Or.inl ⟨hy, by simpa [hy] using hs⟩
  · exact Or.inr ⟨hy, by simpa [hy] using hs⟩
theorem drop_get {zs : List Int} {k : Nat} (h : k < zs.length) : zs.drop k = zs.getD k 0 :: zs.drop (k + 1) := by
  rw [List.drop_eq_getElem_cons h]; simp [List.getD, List.getElem?_eq_getElem h]

end Go.Proofs.Ytakhcifhfbiopaa.N
