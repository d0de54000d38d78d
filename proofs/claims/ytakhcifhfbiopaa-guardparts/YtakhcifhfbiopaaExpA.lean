/- How a row of steps of an expression lies in memory, whatever their type's number. No program in it. -/
import Derived.Test.YtakhcifhfbiopaaExpP
import Derived.Laws.OwnMore
import Derived.WalkKit
import Derived.Lib.Builder
namespace Go.Proofs.Ytakhcifhfbiopaa.Ex
open Go.RowKit
open V

theorem cell_lt {w : World} {b o : Nat} {v : Value} (h : w.cell? ⟨b, o, none⟩ = some v) : b < w.heap.size := by
  by_cases hb : b < w.heap.size
  · exact hb
  · simp [World.cell?, Array.getElem?_eq_none (show w.heap.size ≤ b by omega)] at h
theorem cell_on {w w' : World} {b o : Nat} {v : Value} (hb : Below w.heap.size w w') (h : w.cell? ⟨b, o, none⟩ = some v) : w'.cell? ⟨b, o, none⟩ = some v :=
  (hb.cell (p := ⟨b, o, none⟩) (cell_lt h)).trans h
def flatO : List Oo → List Value
  | [] => []
  | x :: r => .int .i64 x.1 :: .string x.2.1 :: .int .i64 x.2.2.1 :: .int .i64 x.2.2.2.1 :: .string x.2.2.2.2 :: flatO r
theorem flatO_app (xs ys : List Oo) : flatO (xs ++ ys) = flatO xs ++ flatO ys := by
  induction xs with
  | nil => rfl
  | cons x r ih => simp [flatO, ih]
theorem flatO_len (xs : List Oo) : (flatO xs).length = xs.length * 5 := by
  induction xs with
  | nil => rfl
  | cons x r ih => simp [flatO, ih]; omega
theorem flatO_get (xs : List Oo) : ∀ (i : Nat) (x : Oo), xs[i]? = some x → (flatO xs)[i * 5]? = some (.int .i64 x.1) ∧ (flatO xs)[i * 5 + 1]? = some (.string x.2.1) ∧ (flatO xs)[i * 5 + 2]? = some (.int .i64 x.2.2.1) ∧ (flatO xs)[i * 5 + 3]? = some (.int .i64 x.2.2.2.1) ∧ (flatO xs)[i * 5 + 4]? = some (.string x.2.2.2.2) := by
  induction xs with
  | nil => intro i x h; simp at h
  | cons y r ih =>
    intro i x h
    match i with
    | 0 => simp at h; subst h; simp [flatO]
    | i + 1 =>
      have := ih i x (by simpa using h)
      rw [show (i + 1) * 5 = i * 5 + 1 + 1 + 1 + 1 + 1 by omega]
      simpa [flatO] using this
theorem flatO_oneCell (xs : List Oo) : ∀ u ∈ flatO xs, u.oneCell' = true := by
  induction xs with
  | nil => intro u h; simp [flatO] at h
  | cons x r ih =>
    intro u h
    simp only [flatO, List.mem_cons] at h
    rcases h with rfl | rfl | rfl | rfl | rfl | h
    · rfl
    · rfl
    · rfl
    · rfl
    · rfl
    · exact ih u h
/-- A row of them lies at a. -/
def RowO (w : World) (a : Option Addr) (xs : List Oo) : Prop :=
  xs = [] ∨ ∃ b o, a = some ⟨b, o, none⟩ ∧ b < w.heap.size ∧ ∀ (i : Nat) (x : Oo), xs[i]? = some x →
    w.cell? ⟨b, o + i * 5, none⟩ = some (.int .i64 x.1) ∧ w.cell? ⟨b, o + i * 5 + 1, none⟩ = some (.string x.2.1) ∧ w.cell? ⟨b, o + i * 5 + 2, none⟩ = some (.int .i64 x.2.2.1) ∧ w.cell? ⟨b, o + i * 5 + 3, none⟩ = some (.int .i64 x.2.2.2.1) ∧ w.cell? ⟨b, o + i * 5 + 4, none⟩ = some (.string x.2.2.2.2)
theorem RowO.on {w w' : World} {a : Option Addr} {xs : List Oo} (h : RowO w a xs) (hb : Below w.heap.size w w') : RowO w' a xs := by
  rcases h with h | ⟨b, o, ha, hlt, hc⟩
  · exact Or.inl h
  · refine Or.inr ⟨b, o, ha, by have := hb.size; omega, fun i v hv => ?_⟩
    obtain ⟨h0, h1, h2, h3, h4⟩ := hc i v hv
    exact ⟨cell_on hb h0, cell_on hb h1, cell_on hb h2, cell_on hb h3, cell_on hb h4⟩
theorem RowO.up {w : World} {a : Option Addr} {xs : List Oo} {i : Nat} (h : RowO w a xs) (hi : i < xs.length) : ∃ b o, a = some ⟨b, o, none⟩ ∧ b < w.heap.size ∧
    w.cell? ⟨b, o + i * 5, none⟩ = some (.int .i64 xs[i].1) ∧ w.cell? ⟨b, o + i * 5 + 1, none⟩ = some (.string xs[i].2.1) ∧ w.cell? ⟨b, o + i * 5 + 2, none⟩ = some (.int .i64 xs[i].2.2.1) ∧ w.cell? ⟨b, o + i * 5 + 3, none⟩ = some (.int .i64 xs[i].2.2.2.1) ∧ w.cell? ⟨b, o + i * 5 + 4, none⟩ = some (.string xs[i].2.2.2.2) := by
  rcases h with h | ⟨b, o, ha, hlt, hc⟩
  · subst h; simp at hi
  · exact ⟨b, o, ha, hlt, hc i xs[i] (by simp [hi])⟩
/-- A piece of a row: l[p:q]. -/
theorem RowO.cut {w : World} {b o : Nat} {xs : List Oo} (h : RowO w (some ⟨b, o, none⟩) xs) (p k : Nat) : RowO w (some ⟨b, o + p * 5, none⟩) ((xs.drop p).take k) := by
  rcases h with h | ⟨b', o', ha, hlt, hc⟩
  · left; subst h; simp
  · simp only [Option.some.injEq, Addr.mk.injEq, and_true] at ha
    obtain ⟨rfl, rfl⟩ := ha
    refine Or.inr ⟨b, o + p * 5, rfl, hlt, fun i x hx => ?_⟩
    have hx' : xs[p + i]? = some x := by
      have hk : i < k := by
        have := (List.getElem?_eq_some_iff.1 hx).1
        simp at this; omega
      rw [List.getElem?_take_of_lt hk, List.getElem?_drop] at hx
      exact hx
    have := hc (p + i) x hx'
    rw [show o + (p + i) * 5 = o + p * 5 + i * 5 by omega] at this
    exact this
/-- A list of steps lies at a slice. -/
structure LiesO (w : World) (a : Option Addr) (n cap : Nat) (xs : List Oo) : Prop where
  row : RowO w a xs
  len : n = xs.length
  nil : a = none → cap = 0
  cap : n ≤ cap
theorem LiesO.on {w w' : World} {a : Option Addr} {n cap : Nat} {xs : List Oo} (h : LiesO w a n cap xs) (hb : Below w.heap.size w w') : LiesO w' a n cap xs := ⟨h.row.on hb, h.len, h.nil, h.cap⟩
theorem LiesO.le {w : World} {a : Option Addr} {n cap : Nat} {xs : List Oo} (h : LiesO w a n cap xs) : n ≤ xs.length := by rw [h.len]; exact Nat.le_refl _
theorem LiesO.ge {w : World} {a : Option Addr} {n cap : Nat} {xs : List Oo} (h : LiesO w a n cap xs) : xs.length ≤ n := by rw [h.len]; exact Nat.le_refl _
theorem liesO_none (w : World) : LiesO w none 0 0 [] := ⟨Or.inl rfl, rfl, fun _ => rfl, Nat.le_refl _⟩
theorem liesO_own {w : World} {B n cp : Nat} {e : TypeId} {ao : Option Addr} {xs : List Oo} (h : w.ownsRow B e 5 (.slice ao n cp) n (flatO xs)) : LiesO w ao n cp xs := by
  have hn : n = xs.length := by have := h.1; rw [flatO_len] at this; omega
  rcases h.2 with ⟨hv, h0⟩ | ⟨g, cap, cur, hv, _, hg, hc, _, _, ht⟩
  · simp only [Value.slice.injEq] at hv
    exact ⟨Or.inl (List.eq_nil_of_length_eq_zero (by omega)), hn, fun _ => hv.2.2, by omega⟩
  · simp only [Value.slice.injEq] at hv
    obtain ⟨rfl, _, rfl⟩ := hv
    refine ⟨Or.inr ⟨g, 0, rfl, (Array.getElem?_eq_some_iff.1 hg).1, fun i v hv => ?_⟩, hn, (fun h => by cases h), hc⟩
    have hi : i < n := by rw [hn]; exact (List.getElem?_eq_some_iff.1 hv).1
    obtain ⟨h0, h1, h2, h3, h4⟩ := flatO_get xs i v hv
    rw [← ht] at h0 h1 h2 h3 h4
    rw [List.getElem?_take_of_lt (by omega), Array.getElem?_toList] at h0 h1 h2 h3 h4
    rw [Lib.cell_of_heap hg, Lib.cell_of_heap hg, Lib.cell_of_heap hg, Lib.cell_of_heap hg, Lib.cell_of_heap hg]
    simpa using ⟨h0, h1, h2, h3, h4⟩
theorem liesO_lit {w : World} {b : Nat} {xs : List Oo} {T : TypeId} (h : w.heap[b]? = some (.cells (flatO xs).toArray T)) : LiesO w (some ⟨b, 0, none⟩) xs.length xs.length xs := by
  refine ⟨Or.inr ⟨b, 0, rfl, (Array.getElem?_eq_some_iff.1 h).1, fun i v hv => ?_⟩, rfl, (fun h => by cases h), Nat.le_refl _⟩
  obtain ⟨h0, h1, h2, h3, h4⟩ := flatO_get xs i v hv
  rw [Lib.cell_of_heap h, Lib.cell_of_heap h, Lib.cell_of_heap h, Lib.cell_of_heap h, Lib.cell_of_heap h]
  simpa using ⟨h0, h1, h2, h3, h4⟩
end Go.Proofs.Ytakhcifhfbiopaa.Ex
