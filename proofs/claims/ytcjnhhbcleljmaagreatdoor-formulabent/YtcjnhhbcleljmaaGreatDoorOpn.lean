/- What is handed in looks like this in memory: values, lists, steps, atoms, conditions. -/
import Derived.Test.YtcjnhhbcleljmaaGreatDoorBasB
import Derived.Deep.Slices
import Derived.Deep.Strs
import Derived.Lib.SmallJoins
import Derived.Test.YtcjnhhbcleljmaaGreatDoorBasC
import Derived.Test.YtcjnhhbcleljmaaGreatDoorBasE
namespace Go.Proofs.YtcjnhhbcleljmaaGreatDoor.Sb
open Go.ChangeShapes Go.WideShapes Go.ChangeAt Go.RowKit Go.Deep Go.Joins
open V

theorem cells3 : Tryz.prog.cellsOf 3 = 1 := by kernel_rfl
theorem cells24 : Tryz.prog.cellsOf 139 = 3 := by kernel_rfl
theorem cells9 : Tryz.prog.cellsOf 9 = 1 := by kernel_rfl
theorem list3 {α : Type} {l : List α} (h : l.length = 3) : ∃ a b c, l = [a, b, c] := by
  match l, h with
  | [a, b, c], _ => exact ⟨a, b, c, rfl⟩
theorem list4 {α : Type} {l : List α} (h : l.length = 4) : ∃ a b c d, l = [a, b, c, d] := by
  match l, h with
  | [a, b, c, d], _ => exact ⟨a, b, c, d, rfl⟩

section
variable {H : Type} {enc : TypeId × Value → H} {W : World} {sp : Nat → Bool} {held : Bool}

theorem open_val {fuel : Nat} {cs : List Value} {x : DataW H × List MemPlace} (h : DataW.trod enc Tryz.prog W 0 sp held fuel 139 cs = some x) : ∃ v : Vv, cs = [.int .i64 v.1, .int .i64 v.2.1, .string v.2.2] := by
  obtain ⟨y0, y1, y2, n, rfl, hl, h0, h1, h2⟩ := trod_struct3 Tryz.underlying139 h
  rw [cells24] at hl
  obtain ⟨c0, c1, c2, rfl⟩ := list3 hl
  simp only [cells3, cells9, List.drop, List.take] at h0 h1 h2
  obtain ⟨k, e0, _, _⟩ := DataW.trod_int Tryz.underlying3 h0
  obtain ⟨m, e1, _, _⟩ := DataW.trod_int Tryz.underlying3 h1
  obtain ⟨s, e2, _, _⟩ := DataW.trod_string Tryz.underlying9 h2
  simp at e0 e1 e2
  subst e0 e1 e2
  exact ⟨(k, m, s), rfl⟩

end
end Go.Proofs.YtcjnhhbcleljmaaGreatDoor.Sb
namespace Go.Proofs.YtcjnhhbcleljmaaGreatDoor.Sb
open Go.ChangeShapes Go.WideShapes Go.ChangeAt Go.RowKit Go.Deep Go.Joins
open V

set_option maxRecDepth 100000 in
theorem open_value {H : Type} {enc : TypeId × Value → H} {W : World} {sp : Nat → Bool} {held : Bool} {r : Reach} {b0 : Nat} {v : Value} {d : DataW H} {p : List MemPlace} (hv : Value.okWide Tryz.prog W r b0 139 v) (h : DataW.Trod enc Tryz.prog W 0 sp held 139 v d p) : ∃ y : Vv, v = .agg #[.int .i64 y.1, .int .i64 y.2.1, .string y.2.2] := by
  obtain ⟨cs, rfl, hsz⟩ := okWide_struct Tryz.underlying139 hv
  obtain ⟨fuel, hf⟩ := h
  obtain ⟨y, e⟩ := open_val hf
  refine ⟨y, ?_⟩
  simp [Value.cells] at e
  obtain ⟨l⟩ := cs
  simp at e
  rw [e]
end Go.Proofs.YtcjnhhbcleljmaaGreatDoor.Sb
namespace Go.Proofs.YtcjnhhbcleljmaaGreatDoor.Sb
open Go.ChangeShapes Go.WideShapes Go.ChangeAt Go.RowKit Go.Deep Go.Joins
open V

theorem list2 {α : Type} {l : List α} (h : l.length = 2) : ∃ a b, l = [a, b] := by
  match l, h with
  | [a, b], _ => exact ⟨a, b, rfl⟩
theorem cellsT : Tryz.prog.cellsOf 141 = 4 := by kernel_rfl
theorem cellsTs : Tryz.prog.cellsOf 44 = 1 := by kernel_rfl
theorem cellsA : Tryz.prog.cellsOf 46 = 2 := by kernel_rfl

section
variable {H : Type} {enc : TypeId × Value → H} {W : World} {sp : Nat → Bool} {held : Bool}

theorem open_tcells {fuel : Nat} {cs : List Value} {x : DataW H × List MemPlace} (h : DataW.trod enc Tryz.prog W 0 sp held fuel 141 cs = some x) : ∃ y : Bb, cs = [.string y.1, .int .i64 y.2.1, .int .i64 y.2.2.1, .string y.2.2.2] := by
  obtain ⟨y0, y1, n, _, hl, h0, h1⟩ := trod_struct2 Tryz.underlying141 h
  rw [cellsT] at hl
  obtain ⟨c0, c1, c2, c3, rfl⟩ := list4 hl
  simp only [cells24, cells9, List.drop, List.take] at h0 h1
  obtain ⟨s, e0, _, _⟩ := DataW.trod_string Tryz.underlying9 h0
  simp at e0
  subst e0
  obtain ⟨v, hv⟩ := open_val h1
  simp at hv
  obtain ⟨rfl, rfl, rfl⟩ := hv
  exact ⟨(s, v), rfl⟩

theorem open_terms {fuel : Nat} {c : Value} {x : DataW H × List MemPlace} (h : DataW.trod enc Tryz.prog W 0 sp held fuel 44 [c] = some x) : ∃ (a : Option Addr) (len cap : Nat) (xs : List Bb), c = .slice a len cap ∧ Lies W a len cap xs := by
  rcases open_slice Tryz.underlying44 h with ⟨hcs, _⟩ | ⟨a, len, cap, m, n, D, Pl, hcs, _, hl, _, hm, _, hx⟩
  · simp at hcs
    exact ⟨none, 0, 0, [], hcs, lies_none _⟩
  · simp at hcs
    have hlm : len ≤ m := by rw [hm]; split <;> omega
    rw [cellsT] at hx
    obtain ⟨V, hV⟩ := choose_lt (α := Bb) (n := len) (p := fun i y => W.cell? (a.add (i * 4)) = some (.string y.1) ∧ W.cell? ((a.add (i * 4)).add 1) = some (.int .i64 y.2.1) ∧ W.cell? ((a.add (i * 4)).add 2) = some (.int .i64 y.2.2.1) ∧ W.cell? ((a.add (i * 4)).add 3) = some (.string y.2.2.2)) (fun i hi => by
      obtain ⟨cs', h1, h2⟩ := hx i (by omega)
      obtain ⟨y, rfl⟩ := open_tcells h2
      obtain ⟨_, _, h3⟩ := World.cells?_some h1
      have q0 := h3 0 (by omega)
      have q1 := h3 1 (by omega)
      have q2 := h3 2 (by omega)
      have q3 := h3 3 (by omega)
      exact ⟨y, by simpa [Addr.add] using q0, by simpa using q1, by simpa using q2, by simpa using q3⟩)
    refine ⟨some a, len, cap, (List.range len).map V, hcs, ⟨?_, by simp, (fun h => by cases h), by omega⟩⟩
    by_cases h0 : len = 0
    · subst h0; exact Or.inl rfl
    · have hc := (hV 0 (by omega)).1
      obtain ⟨bl, off, spot⟩ := a
      have hspot : spot = none := by simpa [Addr.add] using World.cell?_spot hc
      subst hspot
      refine Or.inr ⟨bl, off, rfl, by have := cell_lt hc; simpa [Addr.add] using this, fun i v hv => ?_⟩
      have hi : i < len := by
        have := (List.getElem?_eq_some_iff.1 hv).1
        simpa using this
      have hv' : v = V i := by
        rw [List.getElem?_map, List.getElem?_range hi] at hv
        simpa using hv.symm
      subst hv'
      obtain ⟨g0, g1, g2, g3⟩ := hV i hi
      rw [add_add] at g1 g2 g3
      simp only [add_plain] at g0 g1 g2 g3
      exact ⟨g0, g1, g2, g3⟩

theorem open_acells {fuel : Nat} {cs : List Value} {x : DataW H × List MemPlace} (h : DataW.trod enc Tryz.prog W 0 sp held fuel 46 cs = some x) : ∃ (n : ByteArray) (a : Option Addr) (len cap : Nat) (ts : List Bb), cs = [.string n, .slice a len cap] ∧ Lies W a len cap ts := by
  obtain ⟨y0, y1, n, _, hl, h0, h1⟩ := trod_struct2 Tryz.underlying46 h
  rw [cellsA] at hl
  obtain ⟨c0, c1, rfl⟩ := list2 hl
  simp only [cellsTs, cells9, List.drop, List.take] at h0 h1
  obtain ⟨s, e0, _, _⟩ := DataW.trod_string Tryz.underlying9 h0
  simp at e0
  subst e0
  obtain ⟨a, len, cap, ts, rfl, hr⟩ := open_terms h1
  exact ⟨s, a, len, cap, ts, rfl, hr⟩

set_option maxRecDepth 20000 in
theorem open_atom {r : Reach} {b0 : Nat} {v : Value} {d : DataW H} {p : List MemPlace} (hv : Value.okWide Tryz.prog W r b0 46 v) (h : DataW.Trod enc Tryz.prog W 0 sp held 46 v d p) : ∃ (n : ByteArray) (a : Option Addr) (len cap : Nat) (ts : List Bb), v = .agg #[.string n, .slice a len cap] ∧ Lies W a len cap ts := by
  obtain ⟨cs, rfl, hsz⟩ := okWide_struct Tryz.underlying46 hv
  obtain ⟨fuel, hf⟩ := h
  obtain ⟨n, a, len, cap, ts, e, hin⟩ := open_acells hf
  refine ⟨n, a, len, cap, ts, ?_, hin⟩
  simp [Value.cells] at e
  obtain ⟨l⟩ := cs
  simp at e
  rw [e]
end
end Go.Proofs.YtcjnhhbcleljmaaGreatDoor.Sb
namespace Go.Proofs.YtcjnhhbcleljmaaGreatDoor.Sb
open Go.ChangeShapes Go.WideShapes Go.ChangeAt Go.RowKit Go.Deep Go.Joins
open V
open Ex (RowO LiesO liesO_none)

theorem cellsO : Tryz.prog.cellsOf 144 = 5 := by kernel_rfl
theorem list5 {α : Type} {l : List α} (h : l.length = 5) : ∃ a b c d e, l = [a, b, c, d, e] := by
  match l, h with
  | [a, b, c, d, e], _ => exact ⟨a, b, c, d, e, rfl⟩

section
variable {H : Type} {enc : TypeId × Value → H} {W : World} {sp : Nat → Bool} {held : Bool}

theorem open_ocells {fuel : Nat} {cs : List Value} {x : DataW H × List MemPlace} (h : DataW.trod enc Tryz.prog W 0 sp held fuel 144 cs = some x) : ∃ y : Oo, cs = [.int .i64 y.1, .string y.2.1, .int .i64 y.2.2.1, .int .i64 y.2.2.2.1, .string y.2.2.2.2] := by
  obtain ⟨y0, y1, y2, n, _, hl, h0, h1, h2⟩ := trod_struct3 Tryz.underlying144 h
  rw [cellsO] at hl
  obtain ⟨c0, c1, c2, c3, c4, rfl⟩ := list5 hl
  simp only [cells24, cells9, cells3, List.drop, List.take] at h0 h1 h2
  obtain ⟨k, e0, _, _⟩ := DataW.trod_int Tryz.underlying3 h0
  obtain ⟨s, e1, _, _⟩ := DataW.trod_string Tryz.underlying9 h1
  simp at e0 e1
  subst e0 e1
  obtain ⟨v, hv⟩ := open_val h2
  simp at hv
  obtain ⟨rfl, rfl, rfl⟩ := hv
  exact ⟨(k, s, v), rfl⟩

theorem open_ops {fuel : Nat} {c : Value} {x : DataW H × List MemPlace} (h : DataW.trod enc Tryz.prog W 0 sp held fuel 81 [c] = some x) : ∃ (a : Option Addr) (len cap : Nat) (xs : List Oo), c = .slice a len cap ∧ LiesO W a len cap xs := by
  rcases open_slice Tryz.underlying81 h with ⟨hcs, _⟩ | ⟨a, len, cap, m, n, D, Pl, hcs, _, hl, _, hm, _, hx⟩
  · simp at hcs
    exact ⟨none, 0, 0, [], hcs, liesO_none _⟩
  · simp at hcs
    have hlm : len ≤ m := by rw [hm]; split <;> omega
    rw [cellsO] at hx
    obtain ⟨V, hV⟩ := choose_lt (α := Oo) (n := len) (p := fun i y => W.cell? (a.add (i * 5)) = some (.int .i64 y.1) ∧ W.cell? ((a.add (i * 5)).add 1) = some (.string y.2.1) ∧ W.cell? ((a.add (i * 5)).add 2) = some (.int .i64 y.2.2.1) ∧ W.cell? ((a.add (i * 5)).add 3) = some (.int .i64 y.2.2.2.1) ∧ W.cell? ((a.add (i * 5)).add 4) = some (.string y.2.2.2.2)) (fun i hi => by
      obtain ⟨cs', h1, h2⟩ := hx i (by omega)
      obtain ⟨y, rfl⟩ := open_ocells h2
      obtain ⟨_, _, h3⟩ := World.cells?_some h1
      have q0 := h3 0 (by omega)
      have q1 := h3 1 (by omega)
      have q2 := h3 2 (by omega)
      have q3 := h3 3 (by omega)
      have q4 := h3 4 (by omega)
      exact ⟨y, by simpa [Addr.add] using q0, by simpa using q1, by simpa using q2, by simpa using q3, by simpa using q4⟩)
    refine ⟨some a, len, cap, (List.range len).map V, hcs, ⟨?_, by simp, (fun h => by cases h), by omega⟩⟩
    by_cases h0 : len = 0
    · subst h0; exact Or.inl rfl
    · have hc := (hV 0 (by omega)).1
      obtain ⟨bl, off, spot⟩ := a
      have hspot : spot = none := by simpa [Addr.add] using World.cell?_spot hc
      subst hspot
      refine Or.inr ⟨bl, off, rfl, by have := cell_lt hc; simpa [Addr.add] using this, fun i v hv => ?_⟩
      have hi : i < len := by
        have := (List.getElem?_eq_some_iff.1 hv).1
        simpa using this
      have hv' : v = V i := by
        rw [List.getElem?_map, List.getElem?_range hi] at hv
        simpa using hv.symm
      subst hv'
      obtain ⟨g0, g1, g2, g3, g4⟩ := hV i hi
      rw [add_add] at g1 g2 g3 g4
      simp only [add_plain] at g0 g1 g2 g3 g4
      exact ⟨g0, g1, g2, g3, g4⟩
end
end Go.Proofs.YtcjnhhbcleljmaaGreatDoor.Sb
namespace Go.Proofs.YtcjnhhbcleljmaaGreatDoor.Sb
open Go.ChangeShapes Go.WideShapes Go.ChangeAt Go.RowKit Go.Deep Go.Joins
open V
open Ex (RowO LiesO liesO_none)

theorem cellsC : Tryz.prog.cellsOf 83 = 6 := by kernel_rfl
theorem cellsOs : Tryz.prog.cellsOf 81 = 1 := by kernel_rfl
theorem list6 {α : Type} {l : List α} (h : l.length = 6) : ∃ a b c d e f, l = [a, b, c, d, e, f] := by
  match l, h with
  | [a, b, c, d, e, f], _ => exact ⟨a, b, c, d, e, f, rfl⟩

section
variable {H : Type} {enc : TypeId × Value → H} {W : World} {sp : Nat → Bool} {held : Bool}

/-- A struct of five fields: each field's reading. -/
theorem trod_five {P : Program} {base : Nat} {t : TypeId} {f0 f1 f2 f3 f4 : Field} {fuel : Nat} {cs : List Value} {x : DataW H × List MemPlace} (ht : P.underlying t = some (.struct #[f0, f1, f2, f3, f4])) (h : DataW.trod enc P W base sp held fuel t cs = some x) :
    ∃ y0 y1 y2 y3 y4 n, cs.length = P.cellsOf t ∧ (DataW.trod enc P W base sp held n f0.type ((cs.drop f0.offset).take (P.cellsOf f0.type)) = some y0 ∧ DataW.trod enc P W base sp held n f1.type ((cs.drop f1.offset).take (P.cellsOf f1.type)) = some y1) ∧
      (DataW.trod enc P W base sp held n f2.type ((cs.drop f2.offset).take (P.cellsOf f2.type)) = some y2 ∧ DataW.trod enc P W base sp held n f3.type ((cs.drop f3.offset).take (P.cellsOf f3.type)) = some y3) ∧ DataW.trod enc P W base sp held n f4.type ((cs.drop f4.offset).take (P.cellsOf f4.type)) = some y4 := by
  obtain ⟨xs, n, _, rfl, hl, hlen, hf⟩ := DataW.trod_struct ht h
  match xs, hlen with
  | [y0, y1, y2, y3, y4], _ => exact ⟨y0, y1, y2, y3, y4, n, hl, ⟨by simpa using hf 0 f0 rfl, by simpa using hf 1 f1 rfl⟩, ⟨by simpa using hf 2 f2 rfl, by simpa using hf 3 f3 rfl⟩, by simpa using hf 4 f4 rfl⟩

theorem open_ccells {fuel : Nat} {cs : List Value} {x : DataW H × List MemPlace} (h : DataW.trod enc Tryz.prog W 0 sp held fuel 83 cs = some x) : ∃ c : Cd, cs = [.int .i64 c.k, .string c.n, .slice c.a c.m c.mc, .int .i64 c.h, .slice c.la c.ll c.lc, .slice c.ra c.rl c.rc] ∧ c.In W := by
  obtain ⟨y0, y1, y2, y3, y4, n, hl, ⟨h0, h1⟩, ⟨h2, h3⟩, h4⟩ := trod_five Tryz.underlying83 h
  rw [cellsC] at hl
  obtain ⟨v0, v1, v2, v3, v4, v5, rfl⟩ := list6 hl
  simp only [cells3, cellsA, cellsOs, List.drop, List.take] at h0 h1 h2 h3 h4
  obtain ⟨k, e0, _, _⟩ := DataW.trod_int Tryz.underlying3 h0
  obtain ⟨m, e2, _, _⟩ := DataW.trod_int Tryz.underlying3 h2
  simp at e0 e2
  subst e0 e2
  obtain ⟨nm, a, len, cap, ts, e1, hT⟩ := open_acells h1
  simp at e1
  obtain ⟨rfl, rfl⟩ := e1
  obtain ⟨la, ll, lc, xs, rfl, hX⟩ := open_ops h3
  obtain ⟨ra, rl, rc, ys, rfl, hY⟩ := open_ops h4
  exact ⟨⟨k, nm, a, len, cap, ts, m, la, ll, lc, xs, ra, rl, rc, ys⟩, rfl, hT, hX, hY⟩

set_option maxRecDepth 20000 in
theorem open_cond {r : Reach} {b0 : Nat} {v : Value} {d : DataW H} {p : List MemPlace} (hv : Value.okWide Tryz.prog W r b0 83 v) (h : DataW.Trod enc Tryz.prog W 0 sp held 83 v d p) : ∃ c : Cd, v = .agg #[.int .i64 c.k, .string c.n, .slice c.a c.m c.mc, .int .i64 c.h, .slice c.la c.ll c.lc, .slice c.ra c.rl c.rc] ∧ c.In W := by
  obtain ⟨cs, rfl, hsz⟩ := okWide_struct Tryz.underlying83 hv
  obtain ⟨fuel, hf⟩ := h
  obtain ⟨c, e, hin⟩ := open_ccells hf
  refine ⟨c, ?_, hin⟩
  simp [Value.cells] at e
  obtain ⟨l⟩ := cs
  simp at e
  rw [e]
end
end Go.Proofs.YtcjnhhbcleljmaaGreatDoor.Sb
