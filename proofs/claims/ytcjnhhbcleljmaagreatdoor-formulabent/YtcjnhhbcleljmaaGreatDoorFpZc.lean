/- Joined: FpY FpZ. -/
import Derived.Test.YtcjnhhbcleljmaaGreatDoorRvR
import Derived.Test.YtcjnhhbcleljmaaGreatDoorFoZa
import Derived.Test.YtcjnhhbcleljmaaGreatDoorOwnZ
namespace Go.Proofs.YtcjnhhbcleljmaaGreatDoor.Sb
open Go.ChangeShapes Go.WideShapes Go.ChangeAt Go.RowKit Go.Deep Go.Joins
open V

theorem cellsNd : Tryz.prog.cellsOf 72 = 5 := by kernel_rfl
theorem cellsNs : Tryz.prog.cellsOf 43 = 1 := by kernel_rfl
theorem cellsPt : Tryz.prog.cellsOf 48 = 4 := by kernel_rfl
section
variable {H : Type} {enc : TypeId × Value → H} {W : World} {sp : Nat → Bool} {held : Bool}

theorem open_ncells {fuel : Nat} {cs : List Value} {x : DataW H × List MemPlace} (h : DataW.trod enc Tryz.prog W 0 sp held fuel 72 cs = some x) : ∃ z : Nz, cs = flatN z ∧ z.In W := by
  obtain ⟨y0, y1, y2, y3, n, _, hl, h0, h1, h2, h3⟩ := trod_struct4 Tryz.underlying72 h
  rw [cellsNd] at hl
  obtain ⟨v0, v1, v2, v3, v4, rfl⟩ := list5 hl
  simp only [cells3, cellsA, List.drop, List.take] at h0 h1 h2 h3
  obtain ⟨k, e0, _, _⟩ := DataW.trod_int Tryz.underlying3 h0
  obtain ⟨A, e2, _, _⟩ := DataW.trod_int Tryz.underlying3 h2
  obtain ⟨B, e3, _, _⟩ := DataW.trod_int Tryz.underlying3 h3
  obtain ⟨s, a, m, mc, ts, e1, hA⟩ := open_acells h1
  simp at e0 e1 e2 e3
  obtain ⟨rfl, rfl⟩ := e1
  subst e0 e2 e3
  exact ⟨⟨k, s, a, m, mc, ts, A, B⟩, rfl, hA⟩
theorem open_nodes {fuel : Nat} {c : Value} {x : DataW H × List MemPlace} (h : DataW.trod enc Tryz.prog W 0 sp held fuel 43 [c] = some x) : ∃ (a : Option Addr) (len cap : Nat) (zs : List Nz), c = .slice a len cap ∧ LiesN W a len cap zs := by
  have inh : Inhabited Nz := ⟨⟨0, .empty, none, 0, 0, [], 0, 0⟩⟩
  rcases open_slice Tryz.underlying43 h with ⟨hcs, _⟩ | ⟨a, len, cap, m, n, D, Pl, hcs, _, hl, _, hm, _, hx⟩
  · simp at hcs
    exact ⟨none, 0, 0, [], hcs, liesN_none _⟩
  · simp at hcs
    have hlm : len ≤ m := by rw [hm]; split <;> omega
    rw [cellsNd] at hx
    obtain ⟨V, hV⟩ := choose_lt (α := Nz) (n := len) (p := fun i z => (W.cell? (a.add (i * 5)) = some (.int .i64 z.k) ∧ W.cell? ((a.add (i * 5)).add 1) = some (.string z.n) ∧ W.cell? ((a.add (i * 5)).add 2) = some (.slice z.a z.m z.mc) ∧ W.cell? ((a.add (i * 5)).add 3) = some (.int .i64 z.A) ∧ W.cell? ((a.add (i * 5)).add 4) = some (.int .i64 z.B)) ∧ z.In W) (fun i hi => by
      obtain ⟨cs', h1, h2⟩ := hx i (by omega)
      obtain ⟨y, rfl, hin⟩ := open_ncells h2
      obtain ⟨_, _, h3⟩ := World.cells?_some h1
      have q0 := h3 0 (by omega)
      have q1 := h3 1 (by omega)
      have q2 := h3 2 (by omega)
      have q3 := h3 3 (by omega)
      have q4 := h3 4 (by omega)
      exact ⟨y, ⟨by simpa [Addr.add] using q0, by simpa using q1, by simpa using q2, by simpa using q3, by simpa using q4⟩, hin⟩)
    refine ⟨some a, len, cap, (List.range len).map V, hcs, ⟨?_, by simp, by simp, (fun h => by cases h), by omega, ?_⟩⟩
    · by_cases h0 : len = 0
      · subst h0; exact Or.inl rfl
      · have hc := (hV 0 (by omega)).1.1
        obtain ⟨bl, off, spot⟩ := a
        have hspot : spot = none := by simpa [Addr.add] using World.cell?_spot hc
        subst hspot
        refine Or.inr ⟨bl, off, rfl, by have := cell_lt hc; simpa [Addr.add] using this, fun i v hv => ?_⟩
        have hi : i < len := by
          have := (List.getElem?_eq_some_iff.1 hv).1
          simpa using this
        have hv' : v = V i := by
          rw [List.getElem?_map, List.getElem?_range hi] at hv
          simpa using hv.symm
        subst hv'
        obtain ⟨⟨g0, g1, g2, g3, g4⟩, _⟩ := hV i hi
        rw [add_add] at g1 g2 g3 g4
        simp only [add_plain] at g0 g1 g2 g3 g4
        exact ⟨g0, g1, g2, g3, g4⟩
    · intro e he
      rw [List.mem_map] at he
      obtain ⟨i, hi, rfl⟩ := he
      exact (hV i (by simpa using hi)).2
set_option maxRecDepth 20000 in
theorem open_pattern {r : Reach} {b0 : Nat} {v : Value} {d : DataW H} {p : List MemPlace} (hv : Value.okWide Tryz.prog W r b0 48 v) (h : DataW.Trod enc Tryz.prog W 0 sp held 48 v d p) : ∃ z : Pz, v = aggP z ∧ z.In W := by
  obtain ⟨cs, rfl, hsz⟩ := okWide_struct Tryz.underlying48 hv
  obtain ⟨fuel, hf⟩ := h
  obtain ⟨y0, y1, y2, n, _, hl, h0, h1, h2⟩ := trod_struct3 Tryz.underlying48 hf
  rw [cellsPt] at hl
  obtain ⟨v0, v1, v2, v3, he⟩ := list4 hl
  rw [he] at h0 h1 h2
  simp only [cells9, cellsA, cellsNs, List.drop, List.take] at h0 h1 h2
  obtain ⟨s, e0, _, _⟩ := DataW.trod_string Tryz.underlying9 h0
  obtain ⟨tn, ta, tm, tc, ts, e1, hA⟩ := open_acells h1
  simp at e0 e1
  obtain ⟨rfl, rfl⟩ := e1
  subst e0
  obtain ⟨na, nl, nc, zs, rfl, hN⟩ := open_nodes h2
  refine ⟨⟨s, tn, ta, tm, tc, ts, na, nl, nc, zs⟩, ?_, ⟨hA, hN⟩⟩
  simp [Value.cells] at he
  obtain ⟨l⟩ := cs
  simp at he
  rw [he]
end
end Go.Proofs.YtcjnhhbcleljmaaGreatDoor.Sb
namespace Go.Proofs.YtcjnhhbcleljmaaGreatDoor
open Go.ChangeShapes Go.WideShapes Go.ChangeAt Go.RowKit

abbrev laid6 : List (String × DataW Unit) := [("math/bits.deBruijn32tab", Rows.laid_math_bits_deBruijn32tab), ("math/bits.deBruijn64tab", Rows.laid_math_bits_deBruijn64tab), ("internal/strconv.uint64pow10", Rows.laid_internal_strconv_uint64pow10), ("strconv.ErrRange", Rows.laid_strconv_ErrRange), ("strconv.ErrSyntax", Rows.laid_strconv_ErrSyntax), ("constable/formula.words", Rows.laid_constable_formula_words)]
theorem door_met6 (os : Os) (args : Array Value) : laidMetH Tryz.prog laid6 ((World.doorLaid Tryz.prog 67 os).forCall (fun _ _ => 0) ⟨#[], args, []⟩).memory :=
  laidMetH_of_parts3 (fuel := 8) (laidMet_of_run' 8 (by kernel_rfl) (by kernel_rfl)) (by kernel_rfl) (by kernel_rfl)
theorem gWords : Tryz.prog.globalNamed "constable/formula.words" = some 0 := by kernel_rfl
theorem gWordsType : (Tryz.prog.globals[0]?).map (·.type) = some 213 := by kernel_rfl
theorem cells213 : Tryz.prog.cellsOf 213 = 9 := by kernel_rfl
/-- An array of strings that reads as a list of texts holds them, cell for cell. -/
theorem cells_of_strs {H : Type} {enc : TypeId × Value → H} {P : Program} {w : World} {base : Nat} {sp : Nat → Bool} {held : Bool} {fuel : Nat} {t e : TypeId} {n : Nat} {cs : List Value} {zs : List (List UInt8)} {p : List MemPlace}
    (ht : P.underlying t = some (.array n e)) (he : P.underlying e = some .string) (hce : P.cellsOf e = 1) (hct : P.cellsOf t = n)
    (h : DataW.trod enc P w base sp held fuel t cs = some (.agg (zs.map fun z => .lit (.string z)), p)) : ∀ (i : Nat) (z : List UInt8), zs[i]? = some z → ∃ s : ByteArray, cs[i]? = some (.string s) ∧ s.data.toList = z := by
  cases fuel with
  | zero => simp [DataW.trod] at h
  | succ fuel =>
    simp only [DataW.trod, ht, hce, hct, Nat.mul_one] at h
    split at h
    · rename_i hl
      obtain ⟨xs, hm, hx⟩ := Option.map_eq_some_iff.1 h
      have hxs : xs.map (·.1) = zs.map fun z => (DataW.lit (.string z) : DataW H) := by
        have := congrArg Prod.fst hx
        simpa using this
      have hxl : xs.length = n := by simpa using Lib.mapM_length hm
      have hzl : zs.length = n := by
        have := congrArg List.length hxs
        simp at this
        omega
      intro i z hz
      have hi : i < n := by
        have := (List.getElem?_eq_some_iff.1 hz).1
        omega
      obtain ⟨b, hb, hf⟩ := Lib.mapM_at hm i i (by simp [hi])
      obtain ⟨s, hc, rfl, _⟩ := DataW.trod_string he hf
      have h1 : cs[i]? = some (.string s) := by
        have := congrArg (·[0]?) hc
        simpa [List.getElem?_take, List.getElem?_drop] using this
      have h2 : (xs.map (·.1))[i]? = some (DataW.lit (.string s.data.toList) : DataW H) := by simp [hb]
      rw [hxs] at h2
      simp only [List.getElem?_map, hz, Option.map_some, Option.some.injEq, DataW.lit.injEq, Lit.string.injEq] at h2
      exact ⟨s, h1, h2.symm⟩
    · cases h
theorem wordT_list : ∀ k : Nat, k < 9 → ([[], [], [110, 111, 116], [97, 110, 100], [111, 114], [98, 101, 102, 111, 114, 101], [111, 110, 99, 101], [97, 108, 119, 97, 121, 115], [115, 105, 110, 99, 101]] : List (List UInt8))[k]? = some (Sb.wordT k).data.toList := by
  intro k hk
  match k, hk with
  | 0, _ => rfl
  | 1, _ => rfl
  | 2, _ => rfl
  | 3, _ => rfl
  | 4, _ => rfl
  | 5, _ => rfl
  | 6, _ => rfl
  | 7, _ => rfl
  | 8, _ => rfl
/-- What the row's list gives: the table, that the two errors are not nil, the words. -/
theorem env_of_laid6 {W : World} (h : laidMetH Tryz.prog laid6 W) : Env W ∧ Sb.Wd W := by
  rw [MakeChecks.laidMetH_plain _ _ _ (by kernel_rfl)] at h
  have ht : Lib.TabIs Tryz.prog W "internal/strconv.uint64pow10" .u64 Lib.pow10Tab := Lib.tabIs_of_head gPow gPowType Tryz.underlying247 Tryz.underlying227 cells227 cells247 h.tail.tail
  obtain ⟨a0, s0, hv0, _⟩ := laid_sentinel h.tail.tail.tail gRng gRngType Tryz.underlying189 row271 Tryz.underlying271 Tryz.underlying273 rfl rfl Tryz.underlying9 cells273 cells9
  obtain ⟨a1, s1, hv1, _⟩ := laid_sentinel h.tail.tail.tail.tail gSyn gSynType Tryz.underlying189 row271 Tryz.underlying271 Tryz.underlying273 rfl rfl Tryz.underlying9 cells273 cells9
  obtain ⟨ps, ⟨g', t', cs, fuel, p, q, hg', ht', hvar, hd, _, _⟩, _⟩ := h.tail.tail.tail.tail.tail
  obtain rfl := Option.some.inj (gWords.symm.trans hg')
  obtain rfl := Option.some.inj (gWordsType.symm.trans ht')
  have hc := cells_of_strs (zs := [[], [], [110, 111, 116], [97, 110, 100], [111, 114], [98, 101, 102, 111, 114, 101], [111, 110, 99, 101], [97, 108, 119, 97, 121, 115], [115, 105, 110, 99, 101]]) Tryz.underlying213 Tryz.underlying9 cells9 cells213 hd
  refine ⟨⟨ht, ⟨_, _, hv1⟩, ⟨_, _, hv0⟩⟩, fun k hk => ?_⟩
  obtain ⟨s, h1, h2⟩ := hc k _ (wordT_list k hk)
  rw [World.var?_cell gWords hvar k]
  have : s = Sb.wordT k := ByteArray.ext (Array.toList_inj.1 h2)
  subst this
  simpa using h1
end Go.Proofs.YtcjnhhbcleljmaaGreatDoor
