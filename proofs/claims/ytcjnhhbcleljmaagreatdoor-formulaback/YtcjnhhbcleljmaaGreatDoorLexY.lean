/- What a list of signs, a list of numbers that is handed in looks like in memory. -/
import Derived.Test.YtcjnhhbcleljmaaGreatDoorOwnZ
import Derived.Test.YtcjnhhbcleljmaaGreatDoorLexZc
import Derived.Deep.Slices
import Derived.Deep.Strs
import Derived.Lib.SmallJoins
namespace Go.Proofs.YtcjnhhbcleljmaaGreatDoor
open Go.ChangeShapes Go.WideShapes Go.ChangeAt Go.RowKit Go.Deep Go.Joins
open V

theorem cells3 : Tryz.prog.cellsOf 3 = 1 := by kernel_rfl
theorem cellsT : Tryz.prog.cellsOf 89 = 4 := by kernel_rfl
theorem cellsP : Tryz.prog.cellsOf 66 = 2 := by kernel_rfl
theorem cells35 : Tryz.prog.cellsOf 73 = 1 := by kernel_rfl
theorem cells22 : Tryz.prog.cellsOf 26 = 1 := by kernel_rfl
theorem laidOut : laidOutB Tryz.prog = true := by kernel_rfl
theorem list4 {α : Type} {l : List α} (h : l.length = 4) : ∃ a b c d, l = [a, b, c, d] := by
  match l, h with
  | [a, b, c, d], _ => exact ⟨a, b, c, d, rfl⟩
def RowN (w : World) (a : Option Addr) (len : Nat) (zs : List Int) : Prop :=
  len = 0 ∨ ∃ b o, a = some ⟨b, o, none⟩ ∧ len ≤ zs.length ∧ ∀ j, j < zs.length → w.cell? ⟨b, o + j, none⟩ = some (.int .i64 (zs.getD j 0))
theorem open_nums {H : Type} {enc : TypeId × Value → H} {W : World} {sp : Nat → Bool} {held : Bool} {fuel : Nat} {c : Value} {x : DataW H × List MemPlace} (h : DataW.trod enc Tryz.prog W 0 sp held fuel 73 [c] = some x) : ∃ (a : Option Addr) (len cap : Nat) (zs : List Int), c = .slice a len cap ∧ RowN W a len zs := by
  rcases open_ints Tryz.underlying73 Tryz.underlying3 cells3 h with ⟨hcs, _⟩ | ⟨ad, len, cap, zs, hcs, _, hl, _, hz, _, hcell, _⟩
  · simp at hcs
    exact ⟨none, 0, 0, [], hcs, Or.inl rfl⟩
  · simp at hcs
    refine ⟨some ad, len, cap, zs, hcs, ?_⟩
    by_cases h0 : len = 0
    · exact Or.inl h0
    · have hlz : len ≤ zs.length := by rw [hz]; split <;> omega
      obtain ⟨bl, off, spot⟩ := ad
      have hspot : spot = none := by simpa [Addr.add] using World.cell?_spot (hcell 0 (by omega))
      subst hspot
      exact Or.inr ⟨bl, off, rfl, hlz, fun j hj => by rw [← add_plain]; exact hcell j hj⟩

section
variable {H : Type} {enc : TypeId × Value → H} {W : World} {sp : Nat → Bool} {held : Bool}

theorem open_tcells {fuel : Nat} {cs : List Value} {x : DataW H × List MemPlace} (h : DataW.trod enc Tryz.prog W 0 sp held fuel 89 cs = some x) : ∃ y : Tm, cs = [.int .i64 y.1, .string y.2.1, .int .i64 y.2.2.1, .int .i64 y.2.2.2] := by
  obtain ⟨y0, y1, y2, n, _, hl, h0, h1, h2⟩ := trod_struct3 Tryz.underlying89 h
  rw [cellsT] at hl
  obtain ⟨c0, c1, c2, c3, rfl⟩ := list4 hl
  simp only [cellsP, cells9, cells3, List.drop, List.take] at h0 h1 h2
  obtain ⟨k, e0, _, _⟩ := DataW.trod_int Tryz.underlying3 h0
  obtain ⟨s, e1, _, _⟩ := DataW.trod_string Tryz.underlying9 h1
  obtain ⟨z0, z1, m, _, hl2, g0, g1⟩ := trod_struct2 Tryz.underlying66 h2
  simp only [cells3, List.drop, List.take] at g0 g1
  obtain ⟨a, e2, _, _⟩ := DataW.trod_int Tryz.underlying3 g0
  obtain ⟨b, e3, _, _⟩ := DataW.trod_int Tryz.underlying3 g1
  simp at e0 e1 e2 e3
  subst e0 e1 e2 e3
  exact ⟨(k, s, a, b), rfl⟩

theorem open_toks {fuel : Nat} {c : Value} {x : DataW H × List MemPlace} (h : DataW.trod enc Tryz.prog W 0 sp held fuel 26 [c] = some x) : ∃ (a : Option Addr) (len cap : Nat) (xs : List Tm), c = .slice a len cap ∧ LiesT W a len cap xs := by
  rcases open_slice Tryz.underlying26 h with ⟨hcs, _⟩ | ⟨a, len, cap, m, n, D, Pl, hcs, _, hl, _, hm, _, hx⟩
  · simp at hcs
    exact ⟨none, 0, 0, [], hcs, liesT_none _⟩
  · simp at hcs
    have hlm : len ≤ m := by rw [hm]; split <;> omega
    rw [cellsT] at hx
    obtain ⟨V, hV⟩ := choose_lt (α := Tm) (n := len) (p := fun i y => W.cell? (a.add (i * 4)) = some (.int .i64 y.1) ∧ W.cell? ((a.add (i * 4)).add 1) = some (.string y.2.1) ∧ W.cell? ((a.add (i * 4)).add 2) = some (.int .i64 y.2.2.1) ∧ W.cell? ((a.add (i * 4)).add 3) = some (.int .i64 y.2.2.2)) (fun i hi => by
      obtain ⟨cs', h1, h2⟩ := hx i (by omega)
      obtain ⟨y, rfl⟩ := open_tcells h2
      obtain ⟨_, _, h3⟩ := World.cells?_some h1
      have q0 := h3 0 (by omega)
      have q1 := h3 1 (by omega)
      have q2 := h3 2 (by omega)
      have q3 := h3 3 (by omega)
      exact ⟨y, by simpa [Addr.add] using q0, by simpa using q1, by simpa using q2, by simpa using q3⟩)
    refine ⟨some a, len, cap, (List.range len).map V, hcs, ⟨?_, by simp, (fun h => by cases h), by omega⟩⟩
    by_cases h0 : len = 0
    · subst h0; exact Or.inl rfl
    · have hc := (hV 0 (by omega)).1
      obtain ⟨bl, off, spot⟩ := a
      have hspot : spot = none := by simpa [Addr.add] using World.cell?_spot hc
      subst hspot
      refine Or.inr ⟨bl, off, rfl, by have := cell_lt hc; simpa [Addr.add] using this, fun i v hv => ?_⟩
      have hi : i < len := by
        have := (List.getElem?_eq_some_iff.1 hv).1
        simpa using this
      have hv' : v = V i := by
        rw [List.getElem?_map, List.getElem?_range hi] at hv
        simpa using hv.symm
      subst hv'
      obtain ⟨g0, g1, g2, g3⟩ := hV i hi
      rw [add_add] at g1 g2 g3
      simp only [add_plain] at g0 g1 g2 g3
      exact ⟨g0, g1, g2, g3⟩
end
end Go.Proofs.YtcjnhhbcleljmaaGreatDoor
