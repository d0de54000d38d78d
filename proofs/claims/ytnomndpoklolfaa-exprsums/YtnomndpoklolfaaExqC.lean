/- What a list of numbers that is handed in looks like in memory. -/
import Derived.Test.YtnomndpoklolfaaExpO
namespace Go.Proofs.Ytnomndpoklolfaa.Sb
open Go.ChangeShapes Go.WideShapes Go.ChangeAt Go.RowKit Go.Deep Go.Joins
open V

def RowN (w : World) (a : Option Addr) (len : Nat) (zs : List Int) : Prop :=
  len = 0 ∨ ∃ b o, a = some ⟨b, o, none⟩ ∧ len ≤ zs.length ∧ ∀ j, j < zs.length → w.cell? ⟨b, o + j, none⟩ = some (.int .i64 (zs.getD j 0))
theorem open_nums {H : Type} {enc : TypeId × Value → H} {W : World} {sp : Nat → Bool} {held : Bool} {fuel : Nat} {c : Value} {x : DataW H × List MemPlace} (h : DataW.trod enc Try.prog W 0 sp held fuel 51 [c] = some x) : ∃ (a : Option Addr) (len cap : Nat) (zs : List Int), c = .slice a len cap ∧ RowN W a len zs := by
  rcases open_ints Try.underlying51 Try.underlying3 cells3 h with ⟨hcs, _⟩ | ⟨ad, len, cap, zs, hcs, _, hl, _, hz, _, hcell, _⟩
  · simp at hcs
    exact ⟨none, 0, 0, [], hcs, Or.inl rfl⟩
  · simp at hcs
    refine ⟨some ad, len, cap, zs, hcs, ?_⟩
    by_cases h0 : len = 0
    · exact Or.inl h0
    · have hlz : len ≤ zs.length := by rw [hz]; split <;> omega
      obtain ⟨bl, off, spot⟩ := ad
      have hspot : spot = none := by simpa [Addr.add] using World.cell?_spot (hcell 0 (by omega))
      subst hspot
      exact Or.inr ⟨bl, off, rfl, hlz, fun j hj => by rw [← add_plain]; exact hcell j hj⟩
end Go.Proofs.Ytnomndpoklolfaa.Sb
