/- What a value that is handed in looks like. -/
import Derived.Test.YtakhcifhfbiopaaSubK
namespace Go.Proofs.Ytakhcifhfbiopaa.Sb
open Go.ChangeShapes Go.WideShapes Go.ChangeAt Go.RowKit Go.Deep Go.Joins
open V

set_option maxRecDepth 100000 in
theorem open_value {H : Type} {enc : TypeId × Value → H} {W : World} {sp : Nat → Bool} {held : Bool} {r : Reach} {b0 : Nat} {v : Value} {d : DataW H} {p : List MemPlace} (hv : Value.okWide Try.prog W r b0 23 v) (h : DataW.Trod enc Try.prog W 0 sp held 23 v d p) : ∃ y : Vv, v = .agg #[.int .i64 y.1, .int .i64 y.2.1, .string y.2.2] := by
  obtain ⟨cs, rfl, hsz⟩ := okWide_struct Try.underlying23 hv
  obtain ⟨fuel, hf⟩ := h
  obtain ⟨y, e⟩ := open_val hf
  refine ⟨y, ?_⟩
  simp [Value.cells] at e
  obtain ⟨l⟩ := cs
  simp at e
  rw [e]
end Go.Proofs.Ytakhcifhfbiopaa.Sb
