/- A row of values, cell by cell. -/
import Derived.Test.YtmoalmpcobljkaaFactC
namespace Go.Proofs.Ytmoalmpcobljkaa
open Go.RowKit
open V

/-- The cells of a row of values. -/
def flatV : List Vb → List Value
  | [] => []
  | v :: r => .int .i64 v.k :: .int .i64 v.n :: .string v.s :: flatV r
theorem flatV_get (vs : List Vb) : ∀ (i : Nat) (v : Vb), vs[i]? = some v → (flatV vs)[i * 3]? = some (.int .i64 v.k) ∧ (flatV vs)[i * 3 + 1]? = some (.int .i64 v.n) ∧ (flatV vs)[i * 3 + 2]? = some (.string v.s) := by
  induction vs with
  | nil => intro i v h; simp at h
  | cons x r ih =>
    intro i v h
    cases i with
    | zero => simp at h; subst h; simp [flatV]
    | succ i =>
      have := ih i v (by simpa using h)
      rw [show (i + 1) * 3 = i * 3 + 3 by omega]
      simpa [flatV] using this
theorem rowV_of {w : World} {b : Nat} {vs : List Vb} {T : TypeId} (h : w.heap[b]? = some (.cells (flatV vs).toArray T)) : RowV w (some ⟨b, 0, none⟩) vs := by
  refine Or.inr ⟨b, 0, rfl, (Array.getElem?_eq_some_iff.1 h).1, fun i v hv => ?_⟩
  obtain ⟨h0, h1, h2⟩ := flatV_get vs i v hv
  rw [Lib.cell_of_heap h, Lib.cell_of_heap h, Lib.cell_of_heap h]
  simpa using ⟨h0, h1, h2⟩

end Go.Proofs.Ytmoalmpcobljkaa
