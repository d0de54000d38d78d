/- A rule that is handed in: what its reading says of its memory. -/
import Derived.Test.YtcjnhhbcleljmaaGreatDoorOpn
import Derived.Test.YtcjnhhbcleljmaaGreatDoorRvZa
namespace Go.Proofs.YtcjnhhbcleljmaaGreatDoor.Sb
open Go.ChangeShapes Go.WideShapes Go.ChangeAt Go.RowKit Go.Deep Go.Joins
open V
open Ex (RowO LiesO liesO_none)

theorem cellsR4 : Tryz.prog.cellsOf 25 = 4 := by kernel_rfl
theorem cellsAc : Tryz.prog.cellsOf 86 = 4 := by kernel_rfl
theorem cellsCs : Tryz.prog.cellsOf 22 = 1 := by kernel_rfl
theorem cellsAs : Tryz.prog.cellsOf 23 = 1 := by kernel_rfl
theorem cellsEs : Tryz.prog.cellsOf 84 = 1 := by kernel_rfl
instance : Inhabited Ez := ⟨⟨none, 0, 0, []⟩⟩
instance : Inhabited Az := ⟨⟨0, .empty, none, 0, 0, [], 0⟩⟩
instance : Inhabited Cd := ⟨⟨0, .empty, none, 0, 0, [], 0, none, 0, 0, [], none, 0, 0, []⟩⟩
theorem liesE_none (w : World) : LiesE w none 0 0 [] := ⟨Or.inl rfl, by simp, by simp, (fun _ => rfl), by omega, by simp⟩
theorem liesA_none (w : World) : LiesA w none 0 0 [] := ⟨Or.inl rfl, by simp, by simp, (fun _ => rfl), by omega, by simp⟩
theorem liesC_none (w : World) : LiesC w none 0 0 [] := ⟨Or.inl rfl, by simp, by simp, (fun _ => rfl), by omega, by simp⟩

section
variable {H : Type} {enc : TypeId × Value → H} {W : World} {sp : Nat → Bool} {held : Bool}

theorem open_exprs {fuel : Nat} {c : Value} {x : DataW H × List MemPlace} (h : DataW.trod enc Tryz.prog W 0 sp held fuel 84 [c] = some x) : ∃ (a : Option Addr) (len cap : Nat) (es : List Ez), c = .slice a len cap ∧ LiesE W a len cap es := by
  rcases open_slice Tryz.underlying84 h with ⟨hcs, _⟩ | ⟨a, len, cap, m, n, D, Pl, hcs, _, hl, _, hm, _, hx⟩
  · simp at hcs
    exact ⟨none, 0, 0, [], hcs, liesE_none _⟩
  · simp at hcs
    have hlm : len ≤ m := by rw [hm]; split <;> omega
    rw [cellsOs] at hx
    obtain ⟨V, hV⟩ := choose_lt (α := Ez) (n := len) (p := fun i y => W.cell? (a.add (i * 1)) = some (.slice y.a y.l y.c) ∧ y.In W) (fun i hi => by
      obtain ⟨cs', h1, h2⟩ := hx i (by omega)
      obtain ⟨hl1, _, h3⟩ := World.cells?_some h1
      have e1 : ∃ v, cs' = [v] := by match cs', hl1 with | [v], _ => exact ⟨v, rfl⟩
      obtain ⟨v, rfl⟩ := e1
      obtain ⟨ea, el, ec, xs, rfl, hX⟩ := open_ops h2
      have q0 := h3 0 (by omega)
      exact ⟨⟨ea, el, ec, xs⟩, by simpa [Addr.add] using q0, hX⟩)
    refine ⟨some a, len, cap, (List.range len).map V, hcs, ⟨?_, by simp, by simp, (fun h => by cases h), by omega, ?_⟩⟩
    · by_cases h0 : len = 0
      · subst h0; exact Or.inl rfl
      · have hc := (hV 0 (by omega)).1
        obtain ⟨bl, off, spot⟩ := a
        have hspot : spot = none := by simpa [Addr.add] using World.cell?_spot hc
        subst hspot
        refine Or.inr ⟨bl, off, rfl, by have := cell_lt hc; simpa [Addr.add] using this, fun i v hv => ?_⟩
        have hi : i < len := by
          have := (List.getElem?_eq_some_iff.1 hv).1
          simpa using this
        have hv' : v = V i := by
          rw [List.getElem?_map, List.getElem?_range hi] at hv
          simpa using hv.symm
        subst hv'
        have g0 := (hV i hi).1
        simp only [add_plain, Nat.mul_one] at g0
        exact g0
    · intro e he
      rw [List.mem_map] at he
      obtain ⟨i, hi, rfl⟩ := he
      exact (hV i (by simpa using hi)).2

theorem open_zcells {fuel : Nat} {cs : List Value} {x : DataW H × List MemPlace} (h : DataW.trod enc Tryz.prog W 0 sp held fuel 86 cs = some x) : ∃ z : Az, cs = [.int .i64 z.k, .string z.n, .slice z.a z.m z.mc, .int .i64 z.wh] ∧ z.In W := by
  obtain ⟨y0, y1, y2, y3, n, _, hl, h0, h1, h2, h3⟩ := trod_struct4 Tryz.underlying86 h
  rw [cellsAc] at hl
  obtain ⟨v0, v1, v2, v3, rfl⟩ := list4 hl
  simp only [cells3, cells9, cellsEs, List.drop, List.take] at h0 h1 h2 h3
  obtain ⟨k, e0, _, _⟩ := DataW.trod_int Tryz.underlying3 h0
  obtain ⟨s, e1, _, _⟩ := DataW.trod_string Tryz.underlying9 h1
  obtain ⟨m, e3, _, _⟩ := DataW.trod_int Tryz.underlying3 h3
  simp at e0 e1 e3
  subst e0 e1 e3
  obtain ⟨a, len, cap, es, rfl, hE⟩ := open_exprs h2
  exact ⟨⟨k, s, a, len, cap, es, m⟩, rfl, hE⟩

theorem open_conds {fuel : Nat} {c : Value} {x : DataW H × List MemPlace} (h : DataW.trod enc Tryz.prog W 0 sp held fuel 22 [c] = some x) : ∃ (a : Option Addr) (len cap : Nat) (cs : List Cd), c = .slice a len cap ∧ LiesC W a len cap cs := by
  rcases open_slice Tryz.underlying22 h with ⟨hcs, _⟩ | ⟨a, len, cap, m, n, D, Pl, hcs, _, hl, _, hm, _, hx⟩
  · simp at hcs
    exact ⟨none, 0, 0, [], hcs, liesC_none _⟩
  · simp at hcs
    have hlm : len ≤ m := by rw [hm]; split <;> omega
    rw [cellsC] at hx
    obtain ⟨V, hV⟩ := choose_lt (α := Cd) (n := len) (p := fun i c => (W.cell? (a.add (i * 6)) = some (.int .i64 c.k) ∧ W.cell? ((a.add (i * 6)).add 1) = some (.string c.n) ∧ W.cell? ((a.add (i * 6)).add 2) = some (.slice c.a c.m c.mc) ∧ W.cell? ((a.add (i * 6)).add 3) = some (.int .i64 c.h) ∧ W.cell? ((a.add (i * 6)).add 4) = some (.slice c.la c.ll c.lc) ∧ W.cell? ((a.add (i * 6)).add 5) = some (.slice c.ra c.rl c.rc)) ∧ c.In W) (fun i hi => by
      obtain ⟨cs', h1, h2⟩ := hx i (by omega)
      obtain ⟨y, rfl, hin⟩ := open_ccells h2
      obtain ⟨_, _, h3⟩ := World.cells?_some h1
      have q0 := h3 0 (by omega)
      have q1 := h3 1 (by omega)
      have q2 := h3 2 (by omega)
      have q3 := h3 3 (by omega)
      have q4 := h3 4 (by omega)
      have q5 := h3 5 (by omega)
      exact ⟨y, ⟨by simpa [Addr.add] using q0, by simpa using q1, by simpa using q2, by simpa using q3, by simpa using q4, by simpa using q5⟩, hin⟩)
    refine ⟨some a, len, cap, (List.range len).map V, hcs, ⟨?_, by simp, by simp, (fun h => by cases h), by omega, ?_⟩⟩
    · by_cases h0 : len = 0
      · subst h0; exact Or.inl rfl
      · have hc := (hV 0 (by omega)).1.1
        obtain ⟨bl, off, spot⟩ := a
        have hspot : spot = none := by simpa [Addr.add] using World.cell?_spot hc
        subst hspot
        refine Or.inr ⟨bl, off, rfl, by have := cell_lt hc; simpa [Addr.add] using this, fun i v hv => ?_⟩
        have hi : i < len := by
          have := (List.getElem?_eq_some_iff.1 hv).1
          simpa using this
        have hv' : v = V i := by
          rw [List.getElem?_map, List.getElem?_range hi] at hv
          simpa using hv.symm
        subst hv'
        obtain ⟨⟨g0, g1, g2, g3, g4, g5⟩, _⟩ := hV i hi
        rw [add_add] at g1 g2 g3 g4 g5
        simp only [add_plain] at g0 g1 g2 g3 g4 g5
        exact ⟨g0, g1, g2, g3, g4, g5⟩
    · intro e he
      rw [List.mem_map] at he
      obtain ⟨i, hi, rfl⟩ := he
      exact (hV i (by simpa using hi)).2

theorem open_acts {fuel : Nat} {c : Value} {x : DataW H × List MemPlace} (h : DataW.trod enc Tryz.prog W 0 sp held fuel 23 [c] = some x) : ∃ (a : Option Addr) (len cap : Nat) (zs : List Az), c = .slice a len cap ∧ LiesA W a len cap zs := by
  rcases open_slice Tryz.underlying23 h with ⟨hcs, _⟩ | ⟨a, len, cap, m, n, D, Pl, hcs, _, hl, _, hm, _, hx⟩
  · simp at hcs
    exact ⟨none, 0, 0, [], hcs, liesA_none _⟩
  · simp at hcs
    have hlm : len ≤ m := by rw [hm]; split <;> omega
    rw [cellsAc] at hx
    obtain ⟨V, hV⟩ := choose_lt (α := Az) (n := len) (p := fun i z => (W.cell? (a.add (i * 4)) = some (.int .i64 z.k) ∧ W.cell? ((a.add (i * 4)).add 1) = some (.string z.n) ∧ W.cell? ((a.add (i * 4)).add 2) = some (.slice z.a z.m z.mc) ∧ W.cell? ((a.add (i * 4)).add 3) = some (.int .i64 z.wh)) ∧ z.In W) (fun i hi => by
      obtain ⟨cs', h1, h2⟩ := hx i (by omega)
      obtain ⟨y, rfl, hin⟩ := open_zcells h2
      obtain ⟨_, _, h3⟩ := World.cells?_some h1
      have q0 := h3 0 (by omega)
      have q1 := h3 1 (by omega)
      have q2 := h3 2 (by omega)
      have q3 := h3 3 (by omega)
      exact ⟨y, ⟨by simpa [Addr.add] using q0, by simpa using q1, by simpa using q2, by simpa using q3⟩, hin⟩)
    refine ⟨some a, len, cap, (List.range len).map V, hcs, ⟨?_, by simp, by simp, (fun h => by cases h), by omega, ?_⟩⟩
    · by_cases h0 : len = 0
      · subst h0; exact Or.inl rfl
      · have hc := (hV 0 (by omega)).1.1
        obtain ⟨bl, off, spot⟩ := a
        have hspot : spot = none := by simpa [Addr.add] using World.cell?_spot hc
        subst hspot
        refine Or.inr ⟨bl, off, rfl, by have := cell_lt hc; simpa [Addr.add] using this, fun i v hv => ?_⟩
        have hi : i < len := by
          have := (List.getElem?_eq_some_iff.1 hv).1
          simpa using this
        have hv' : v = V i := by
          rw [List.getElem?_map, List.getElem?_range hi] at hv
          simpa using hv.symm
        subst hv'
        obtain ⟨⟨g0, g1, g2, g3⟩, _⟩ := hV i hi
        rw [add_add] at g1 g2 g3
        simp only [add_plain] at g0 g1 g2 g3
        exact ⟨g0, g1, g2, g3⟩
    · intro e he
      rw [List.mem_map] at he
      obtain ⟨i, hi, rfl⟩ := he
      exact (hV i (by simpa using hi)).2

set_option maxRecDepth 20000 in
theorem open_rule {r : Reach} {b0 : Nat} {v : Value} {d : DataW H} {p : List MemPlace} (hv : Value.okWide Tryz.prog W r b0 25 v) (h : DataW.Trod enc Tryz.prog W 0 sp held 25 v d p) : ∃ r : Rz, v = aggR r ∧ r.In W := by
  obtain ⟨cs, rfl, hsz⟩ := okWide_struct Tryz.underlying25 hv
  obtain ⟨fuel, hf⟩ := h
  obtain ⟨y0, y1, y2, y3, n, _, hl, h0, h1, h2, h3⟩ := trod_struct4 Tryz.underlying25 hf
  rw [cellsR4] at hl
  obtain ⟨v0, v1, v2, v3, he⟩ := list4 hl
  rw [he] at h0 h1 h2 h3
  simp only [cells3, cells9, cellsCs, cellsAs, List.drop, List.take] at h0 h1 h2 h3
  obtain ⟨s, e0, _, _⟩ := DataW.trod_string Tryz.underlying9 h0
  obtain ⟨k, e1, _, _⟩ := DataW.trod_int Tryz.underlying3 h1
  simp at e0 e1
  subst e0 e1
  obtain ⟨ca, cl, cc, cs', rfl, hC⟩ := open_conds h2
  obtain ⟨aa, al, ac, zs, rfl, hA⟩ := open_acts h3
  refine ⟨⟨s, k, ca, cl, cc, cs', aa, al, ac, zs⟩, ?_, ⟨hC, hA⟩⟩
  simp [Value.cells] at he
  obtain ⟨l⟩ := cs
  simp at he
  rw [he]
end
end Go.Proofs.YtcjnhhbcleljmaaGreatDoor.Sb

