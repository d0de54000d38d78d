/- What a list of variables' values that is handed in looks like in memory. -/
import Derived.Test.YtakhcifhfbiopaaSubG
import Derived.Deep.Slices
import Derived.Deep.Strs
import Derived.Lib.SmallJoins
namespace Go.Proofs.Ytakhcifhfbiopaa.Sb
open Go.ChangeShapes Go.WideShapes Go.ChangeAt Go.RowKit Go.Deep Go.Joins
open V

theorem cells3 : Try.prog.cellsOf 3 = 1 := by kernel_rfl
theorem cells24 : Try.prog.cellsOf 23 = 3 := by kernel_rfl
theorem cells39 : Try.prog.cellsOf 54 = 4 := by kernel_rfl
theorem cells9 : Try.prog.cellsOf 9 = 1 := by kernel_rfl
theorem list3 {α : Type} {l : List α} (h : l.length = 3) : ∃ a b c, l = [a, b, c] := by
  match l, h with
  | [a, b, c], _ => exact ⟨a, b, c, rfl⟩
theorem list4 {α : Type} {l : List α} (h : l.length = 4) : ∃ a b c d, l = [a, b, c, d] := by
  match l, h with
  | [a, b, c, d], _ => exact ⟨a, b, c, d, rfl⟩

section
variable {H : Type} {enc : TypeId × Value → H} {W : World} {sp : Nat → Bool} {held : Bool}

theorem open_val {fuel : Nat} {cs : List Value} {x : DataW H × List MemPlace} (h : DataW.trod enc Try.prog W 0 sp held fuel 23 cs = some x) : ∃ v : Vv, cs = [.int .i64 v.1, .int .i64 v.2.1, .string v.2.2] := by
  obtain ⟨y0, y1, y2, n, rfl, hl, h0, h1, h2⟩ := trod_struct3 Try.underlying23 h
  rw [cells24] at hl
  obtain ⟨c0, c1, c2, rfl⟩ := list3 hl
  simp only [cells3, cells9, List.drop, List.take] at h0 h1 h2
  obtain ⟨k, e0, _, _⟩ := DataW.trod_int Try.underlying3 h0
  obtain ⟨m, e1, _, _⟩ := DataW.trod_int Try.underlying3 h1
  obtain ⟨s, e2, _, _⟩ := DataW.trod_string Try.underlying9 h2
  simp at e0 e1 e2
  subst e0 e1 e2
  exact ⟨(k, m, s), rfl⟩

theorem open_bcells {fuel : Nat} {cs : List Value} {x : DataW H × List MemPlace} (h : DataW.trod enc Try.prog W 0 sp held fuel 54 cs = some x) : ∃ y : Bb, cs = [.string y.1, .int .i64 y.2.1, .int .i64 y.2.2.1, .string y.2.2.2] := by
  obtain ⟨y0, y1, n, _, hl, h0, h1⟩ := trod_struct2 Try.underlying54 h
  rw [cells39] at hl
  obtain ⟨c0, c1, c2, c3, rfl⟩ := list4 hl
  simp only [cells24, cells9, List.drop, List.take] at h0 h1
  obtain ⟨s, e0, _, _⟩ := DataW.trod_string Try.underlying9 h0
  simp at e0
  subst e0
  obtain ⟨v, hv⟩ := open_val h1
  simp at hv
  obtain ⟨rfl, rfl, rfl⟩ := hv
  exact ⟨(s, v), rfl⟩

theorem open_binds {fuel : Nat} {c : Value} {x : DataW H × List MemPlace} (h : DataW.trod enc Try.prog W 0 sp held fuel 30 [c] = some x) : ∃ (a : Option Addr) (len cap : Nat) (xs : List Bb), c = .slice a len cap ∧ Lies W a len cap xs := by
  rcases open_slice Try.underlying30 h with ⟨hcs, _⟩ | ⟨a, len, cap, m, n, D, Pl, hcs, _, hl, _, hm, _, hx⟩
  · simp at hcs
    exact ⟨none, 0, 0, [], hcs, lies_none _⟩
  · simp at hcs
    have hlm : len ≤ m := by rw [hm]; split <;> omega
    rw [cells39] at hx
    obtain ⟨V, hV⟩ := choose_lt (α := Bb) (n := len) (p := fun i y => W.cell? (a.add (i * 4)) = some (.string y.1) ∧ W.cell? ((a.add (i * 4)).add 1) = some (.int .i64 y.2.1) ∧ W.cell? ((a.add (i * 4)).add 2) = some (.int .i64 y.2.2.1) ∧ W.cell? ((a.add (i * 4)).add 3) = some (.string y.2.2.2)) (fun i hi => by
      obtain ⟨cs', h1, h2⟩ := hx i (by omega)
      obtain ⟨y, rfl⟩ := open_bcells h2
      obtain ⟨_, _, h3⟩ := World.cells?_some h1
      have q0 := h3 0 (by omega)
      have q1 := h3 1 (by omega)
      have q2 := h3 2 (by omega)
      have q3 := h3 3 (by omega)
      exact ⟨y, by simpa [Addr.add] using q0, by simpa using q1, by simpa using q2, by simpa using q3⟩)
    refine ⟨some a, len, cap, (List.range len).map V, hcs, ⟨?_, by simp, (fun h => by cases h), by omega⟩⟩
    by_cases h0 : len = 0
    · subst h0; exact Or.inl rfl
    · have hc := (hV 0 (by omega)).1
      obtain ⟨bl, off, spot⟩ := a
      have hspot : spot = none := by simpa [Addr.add] using World.cell?_spot hc
      subst hspot
      refine Or.inr ⟨bl, off, rfl, by have := cell_lt hc; simpa [Addr.add] using this, fun i v hv => ?_⟩
      have hi : i < len := by
        have := (List.getElem?_eq_some_iff.1 hv).1
        simpa using this
      have hv' : v = V i := by
        rw [List.getElem?_map, List.getElem?_range hi] at hv
        simpa using hv.symm
      subst hv'
      obtain ⟨g0, g1, g2, g3⟩ := hV i hi
      rw [add_add] at g1 g2 g3
      simp only [add_plain] at g0 g1 g2 g3
      exact ⟨g0, g1, g2, g3⟩
end
end Go.Proofs.Ytakhcifhfbiopaa.Sb
