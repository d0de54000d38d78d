/- What an atom that is handed in looks like in memory. -/
import Derived.Test.YtmoalmpcobljkaaSubK
import Derived.Test.YtmoalmpcobljkaaFactK
namespace Go.Proofs.Ytmoalmpcobljkaa.Sb
open Go.ChangeShapes Go.WideShapes Go.ChangeAt Go.RowKit Go.Deep Go.Joins
open V

theorem cellsT : Try.prog.cellsOf 47 = 4 := by kernel_rfl
theorem cellsTs : Try.prog.cellsOf 22 = 1 := by kernel_rfl
theorem cellsA : Try.prog.cellsOf 24 = 2 := by kernel_rfl

section
variable {H : Type} {enc : TypeId × Value → H} {W : World} {sp : Nat → Bool} {held : Bool}

theorem open_tcells {fuel : Nat} {cs : List Value} {x : DataW H × List MemPlace} (h : DataW.trod enc Try.prog W 0 sp held fuel 47 cs = some x) : ∃ y : Bb, cs = [.string y.1, .int .i64 y.2.1, .int .i64 y.2.2.1, .string y.2.2.2] := by
  obtain ⟨y0, y1, n, _, hl, h0, h1⟩ := trod_struct2 Try.underlying47 h
  rw [cellsT] at hl
  obtain ⟨c0, c1, c2, c3, rfl⟩ := list4 hl
  simp only [cells24, cells9, List.drop, List.take] at h0 h1
  obtain ⟨s, e0, _, _⟩ := DataW.trod_string Try.underlying9 h0
  simp at e0
  subst e0
  obtain ⟨v, hv⟩ := open_val h1
  simp at hv
  obtain ⟨rfl, rfl, rfl⟩ := hv
  exact ⟨(s, v), rfl⟩

theorem open_terms {fuel : Nat} {c : Value} {x : DataW H × List MemPlace} (h : DataW.trod enc Try.prog W 0 sp held fuel 22 [c] = some x) : ∃ (a : Option Addr) (len cap : Nat) (xs : List Bb), c = .slice a len cap ∧ Lies W a len cap xs := by
  rcases open_slice Try.underlying22 h with ⟨hcs, _⟩ | ⟨a, len, cap, m, n, D, Pl, hcs, _, hl, _, hm, _, hx⟩
  · simp at hcs
    exact ⟨none, 0, 0, [], hcs, lies_none _⟩
  · simp at hcs
    have hlm : len ≤ m := by rw [hm]; split <;> omega
    rw [cellsT] at hx
    obtain ⟨V, hV⟩ := choose_lt (α := Bb) (n := len) (p := fun i y => W.cell? (a.add (i * 4)) = some (.string y.1) ∧ W.cell? ((a.add (i * 4)).add 1) = some (.int .i64 y.2.1) ∧ W.cell? ((a.add (i * 4)).add 2) = some (.int .i64 y.2.2.1) ∧ W.cell? ((a.add (i * 4)).add 3) = some (.string y.2.2.2)) (fun i hi => by
      obtain ⟨cs', h1, h2⟩ := hx i (by omega)
      obtain ⟨y, rfl⟩ := open_tcells h2
      obtain ⟨_, _, h3⟩ := World.cells?_some h1
      have q0 := h3 0 (by omega)
      have q1 := h3 1 (by omega)
      have q2 := h3 2 (by omega)
      have q3 := h3 3 (by omega)
      exact ⟨y, by simpa [Addr.add] using q0, by simpa using q1, by simpa using q2, by simpa using q3⟩)
    refine ⟨some a, len, cap, (List.range len).map V, hcs, ⟨?_, by simp, (fun h => by cases h), by omega⟩⟩
    by_cases h0 : len = 0
    · subst h0; exact Or.inl rfl
    · have hc := (hV 0 (by omega)).1
      obtain ⟨bl, off, spot⟩ := a
      have hspot : spot = none := by simpa [Addr.add] using World.cell?_spot hc
      subst hspot
      refine Or.inr ⟨bl, off, rfl, by have := cell_lt hc; simpa [Addr.add] using this, fun i v hv => ?_⟩
      have hi : i < len := by
        have := (List.getElem?_eq_some_iff.1 hv).1
        simpa using this
      have hv' : v = V i := by
        rw [List.getElem?_map, List.getElem?_range hi] at hv
        simpa using hv.symm
      subst hv'
      obtain ⟨g0, g1, g2, g3⟩ := hV i hi
      rw [add_add] at g1 g2 g3
      simp only [add_plain] at g0 g1 g2 g3
      exact ⟨g0, g1, g2, g3⟩

theorem open_acells {fuel : Nat} {cs : List Value} {x : DataW H × List MemPlace} (h : DataW.trod enc Try.prog W 0 sp held fuel 24 cs = some x) : ∃ (n : ByteArray) (a : Option Addr) (len cap : Nat) (ts : List Bb), cs = [.string n, .slice a len cap] ∧ Lies W a len cap ts := by
  obtain ⟨y0, y1, n, _, hl, h0, h1⟩ := trod_struct2 Try.underlying24 h
  rw [cellsA] at hl
  obtain ⟨c0, c1, rfl⟩ := list2 hl
  simp only [cellsTs, cells9, List.drop, List.take] at h0 h1
  obtain ⟨s, e0, _, _⟩ := DataW.trod_string Try.underlying9 h0
  simp at e0
  subst e0
  obtain ⟨a, len, cap, ts, rfl, hr⟩ := open_terms h1
  exact ⟨s, a, len, cap, ts, rfl, hr⟩

set_option maxRecDepth 20000 in
theorem open_atom {r : Reach} {b0 : Nat} {v : Value} {d : DataW H} {p : List MemPlace} (hv : Value.okWide Try.prog W r b0 24 v) (h : DataW.Trod enc Try.prog W 0 sp held 24 v d p) : ∃ (n : ByteArray) (a : Option Addr) (len cap : Nat) (ts : List Bb), v = .agg #[.string n, .slice a len cap] ∧ Lies W a len cap ts := by
  obtain ⟨cs, rfl, hsz⟩ := okWide_struct Try.underlying24 hv
  obtain ⟨fuel, hf⟩ := h
  obtain ⟨n, a, len, cap, ts, e, hin⟩ := open_acells hf
  refine ⟨n, a, len, cap, ts, ?_, hin⟩
  simp [Value.cells] at e
  obtain ⟨l⟩ := cs
  simp at e
  rw [e]
end
end Go.Proofs.Ytmoalmpcobljkaa.Sb
