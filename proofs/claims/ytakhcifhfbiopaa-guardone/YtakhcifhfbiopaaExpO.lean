/- What a list of steps that is handed in looks like in memory. -/
import Derived.Test.YtakhcifhfbiopaaSubL
import Derived.Test.YtakhcifhfbiopaaExpA
namespace Go.Proofs.Ytakhcifhfbiopaa.Sb
open Go.ChangeShapes Go.WideShapes Go.ChangeAt Go.RowKit Go.Deep Go.Joins
open V
open Ex (RowO LiesO liesO_none)

theorem cellsO : Try.prog.cellsOf 67 = 5 := by kernel_rfl
theorem list5 {α : Type} {l : List α} (h : l.length = 5) : ∃ a b c d e, l = [a, b, c, d, e] := by
  match l, h with
  | [a, b, c, d, e], _ => exact ⟨a, b, c, d, e, rfl⟩

section
variable {H : Type} {enc : TypeId × Value → H} {W : World} {sp : Nat → Bool} {held : Bool}

theorem open_ocells {fuel : Nat} {cs : List Value} {x : DataW H × List MemPlace} (h : DataW.trod enc Try.prog W 0 sp held fuel 67 cs = some x) : ∃ y : Oo, cs = [.int .i64 y.1, .string y.2.1, .int .i64 y.2.2.1, .int .i64 y.2.2.2.1, .string y.2.2.2.2] := by
  obtain ⟨y0, y1, y2, n, _, hl, h0, h1, h2⟩ := trod_struct3 Try.underlying67 h
  rw [cellsO] at hl
  obtain ⟨c0, c1, c2, c3, c4, rfl⟩ := list5 hl
  simp only [cells24, cells9, cells3, List.drop, List.take] at h0 h1 h2
  obtain ⟨k, e0, _, _⟩ := DataW.trod_int Try.underlying3 h0
  obtain ⟨s, e1, _, _⟩ := DataW.trod_string Try.underlying9 h1
  simp at e0 e1
  subst e0 e1
  obtain ⟨v, hv⟩ := open_val h2
  simp at hv
  obtain ⟨rfl, rfl, rfl⟩ := hv
  exact ⟨(k, s, v), rfl⟩

theorem open_ops {fuel : Nat} {c : Value} {x : DataW H × List MemPlace} (h : DataW.trod enc Try.prog W 0 sp held fuel 27 [c] = some x) : ∃ (a : Option Addr) (len cap : Nat) (xs : List Oo), c = .slice a len cap ∧ LiesO W a len cap xs := by
  rcases open_slice Try.underlying27 h with ⟨hcs, _⟩ | ⟨a, len, cap, m, n, D, Pl, hcs, _, hl, _, hm, _, hx⟩
  · simp at hcs
    exact ⟨none, 0, 0, [], hcs, liesO_none _⟩
  · simp at hcs
    have hlm : len ≤ m := by rw [hm]; split <;> omega
    rw [cellsO] at hx
    obtain ⟨V, hV⟩ := choose_lt (α := Oo) (n := len) (p := fun i y => W.cell? (a.add (i * 5)) = some (.int .i64 y.1) ∧ W.cell? ((a.add (i * 5)).add 1) = some (.string y.2.1) ∧ W.cell? ((a.add (i * 5)).add 2) = some (.int .i64 y.2.2.1) ∧ W.cell? ((a.add (i * 5)).add 3) = some (.int .i64 y.2.2.2.1) ∧ W.cell? ((a.add (i * 5)).add 4) = some (.string y.2.2.2.2)) (fun i hi => by
      obtain ⟨cs', h1, h2⟩ := hx i (by omega)
      obtain ⟨y, rfl⟩ := open_ocells h2
      obtain ⟨_, _, h3⟩ := World.cells?_some h1
      have q0 := h3 0 (by omega)
      have q1 := h3 1 (by omega)
      have q2 := h3 2 (by omega)
      have q3 := h3 3 (by omega)
      have q4 := h3 4 (by omega)
      exact ⟨y, by simpa [Addr.add] using q0, by simpa using q1, by simpa using q2, by simpa using q3, by simpa using q4⟩)
    refine ⟨some a, len, cap, (List.range len).map V, hcs, ⟨?_, by simp, (fun h => by cases h), by omega⟩⟩
    by_cases h0 : len = 0
    · subst h0; exact Or.inl rfl
    · have hc := (hV 0 (by omega)).1
      obtain ⟨bl, off, spot⟩ := a
      have hspot : spot = none := by simpa [Addr.add] using World.cell?_spot hc
      subst hspot
      refine Or.inr ⟨bl, off, rfl, by have := cell_lt hc; simpa [Addr.add] using this, fun i v hv => ?_⟩
      have hi : i < len := by
        have := (List.getElem?_eq_some_iff.1 hv).1
        simpa using this
      have hv' : v = V i := by
        rw [List.getElem?_map, List.getElem?_range hi] at hv
        simpa using hv.symm
      subst hv'
      obtain ⟨g0, g1, g2, g3, g4⟩ := hV i hi
      rw [add_add] at g1 g2 g3 g4
      simp only [add_plain] at g0 g1 g2 g3 g4
      exact ⟨g0, g1, g2, g3, g4⟩
end
end Go.Proofs.Ytakhcifhfbiopaa.Sb
