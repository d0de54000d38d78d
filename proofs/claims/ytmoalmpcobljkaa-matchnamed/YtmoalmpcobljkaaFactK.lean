/- What a fact that is handed in looks like in memory. -/
import Derived.Test.YtmoalmpcobljkaaFactJ
import Derived.Deep.Slices
import Derived.Deep.Strs
import Derived.Lib.SmallJoins
namespace Go.Proofs.Ytmoalmpcobljkaa
open Go.ChangeShapes Go.WideShapes Go.ChangeAt Go.RowKit Go.Deep Go.Joins

theorem cells3 : Try.prog.cellsOf 3 = 1 := by kernel_rfl
theorem cells23 : Try.prog.cellsOf 25 = 1 := by kernel_rfl
theorem cells47 : Try.prog.cellsOf 40 = 3 := by kernel_rfl
theorem cells25 : Try.prog.cellsOf 27 = 2 := by kernel_rfl
theorem cells9 : Try.prog.cellsOf 9 = 1 := by kernel_rfl
theorem list3 {α : Type} {l : List α} (h : l.length = 3) : ∃ a b c, l = [a, b, c] := by
  match l, h with
  | [a, b, c], _ => exact ⟨a, b, c, rfl⟩
theorem list2 {α : Type} {l : List α} (h : l.length = 2) : ∃ a b, l = [a, b] := by
  match l, h with
  | [a, b], _ => exact ⟨a, b, rfl⟩

section
variable {H : Type} {enc : TypeId × Value → H} {W : World} {sp : Nat → Bool} {held : Bool}

theorem open_val {fuel : Nat} {cs : List Value} {x : DataW H × List MemPlace} (h : DataW.trod enc Try.prog W 0 sp held fuel 40 cs = some x) : ∃ v : Vb, cs = [.int .i64 v.k, .int .i64 v.n, .string v.s] := by
  obtain ⟨y0, y1, y2, n, rfl, hl, h0, h1, h2⟩ := trod_struct3 Try.underlying40 h
  rw [cells47] at hl
  obtain ⟨c0, c1, c2, rfl⟩ := list3 hl
  simp only [cells3, cells9, List.drop, List.take] at h0 h1 h2
  obtain ⟨k, e0, _, _⟩ := DataW.trod_int Try.underlying3 h0
  obtain ⟨m, e1, _, _⟩ := DataW.trod_int Try.underlying3 h1
  obtain ⟨s, e2, _, _⟩ := DataW.trod_string Try.underlying9 h2
  simp at e0 e1 e2
  subst e0 e1 e2
  exact ⟨⟨k, m, s⟩, rfl⟩

theorem open_vals {fuel : Nat} {c : Value} {x : DataW H × List MemPlace} (h : DataW.trod enc Try.prog W 0 sp held fuel 25 [c] = some x) : ∃ (a : Option Addr) (len cap : Nat) (vs : List Vb), c = .slice a len cap ∧ RowV W a vs ∧ len = vs.length ∧ (a = none → cap = 0) := by
  rcases open_slice Try.underlying25 h with ⟨hcs, _⟩ | ⟨a, len, cap, m, n, D, Pl, hcs, _, hl, _, hm, _, hx⟩
  · simp at hcs
    exact ⟨none, 0, 0, [], hcs, Or.inl rfl, rfl, fun _ => rfl⟩
  · simp at hcs
    have hlm : len ≤ m := by rw [hm]; split <;> omega
    rw [cells47] at hx
    have inh : Inhabited Vb := ⟨⟨0, 0, ⟨#[]⟩⟩⟩
    obtain ⟨V, hV⟩ := choose_lt (α := Vb) (n := len) (p := fun i v => W.cell? (a.add (i * 3)) = some (.int .i64 v.k) ∧ W.cell? ((a.add (i * 3)).add 1) = some (.int .i64 v.n) ∧ W.cell? ((a.add (i * 3)).add 2) = some (.string v.s)) (fun i hi => by
      obtain ⟨cs', h1, h2⟩ := hx i (by omega)
      obtain ⟨v, rfl⟩ := open_val h2
      obtain ⟨_, _, h3⟩ := World.cells?_some h1
      have q0 := h3 0 (by omega)
      have q1 := h3 1 (by omega)
      have q2 := h3 2 (by omega)
      exact ⟨v, by simpa [Addr.add] using q0, by simpa using q1, by simpa using q2⟩)
    refine ⟨some a, len, cap, (List.range len).map V, hcs, ?_, by simp, fun h => by cases h⟩
    by_cases h0 : len = 0
    · subst h0; exact Or.inl rfl
    · have hc := (hV 0 (by omega)).1
      obtain ⟨bl, off, spot⟩ := a
      have hspot : spot = none := by simpa [Addr.add] using World.cell?_spot hc
      subst hspot
      refine Or.inr ⟨bl, off, rfl, by have := cell_lt hc; simpa [Addr.add] using this, fun i v hv => ?_⟩
      have hi : i < len := by
        have := (List.getElem?_eq_some_iff.1 hv).1
        simpa using this
      have hv' : v = V i := by
        rw [List.getElem?_map, List.getElem?_range hi] at hv
        simpa using hv.symm
      subst hv'
      obtain ⟨g0, g1, g2⟩ := hV i hi
      rw [add_add] at g1 g2
      simp only [add_plain] at g0 g1 g2
      exact ⟨g0, g1, g2⟩

theorem open_fcells {fuel : Nat} {cs : List Value} {x : DataW H × List MemPlace} (h : DataW.trod enc Try.prog W 0 sp held fuel 27 cs = some x) : ∃ f : Fb, cs = [.string f.n, .slice f.a f.len f.cap] ∧ f.In W ∧ (f.a = none → f.cap = 0) := by
  obtain ⟨y0, y1, n, _, hl, h0, h1⟩ := trod_struct2 Try.underlying27 h
  rw [cells25] at hl
  obtain ⟨c0, c1, rfl⟩ := list2 hl
  simp only [cells23, cells9, List.drop, List.take] at h0 h1
  obtain ⟨s, e0, _, _⟩ := DataW.trod_string Try.underlying9 h0
  simp at e0
  subst e0
  obtain ⟨a, len, cap, vs, rfl, hr, hlen, hn⟩ := open_vals h1
  exact ⟨⟨s, a, len, cap, vs⟩, rfl, ⟨hr, hlen⟩, hn⟩

set_option maxRecDepth 20000 in
theorem open_fact {r : Reach} {b0 : Nat} {v : Value} {d : DataW H} {p : List MemPlace} (hv : Value.okWide Try.prog W r b0 27 v) (h : DataW.Trod enc Try.prog W 0 sp held 27 v d p) : ∃ f : Fb, v = .agg #[.string f.n, .slice f.a f.len f.cap] ∧ f.In W ∧ (f.a = none → f.cap = 0) := by
  obtain ⟨cs, rfl, hsz⟩ := okWide_struct Try.underlying27 hv
  obtain ⟨fuel, hf⟩ := h
  obtain ⟨f, e, hin, hn⟩ := open_fcells hf
  refine ⟨f, ?_, hin, hn⟩
  simp [Value.cells] at e
  obtain ⟨l⟩ := cs
  simp at e
  rw [e]

end
end Go.Proofs.Ytmoalmpcobljkaa
