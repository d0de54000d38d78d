/- Facts in boxes, rows of facts in memory. -/
import Derived.Test.YtmoalmpcobljkaaFactI
import Derived.Deep.Cut
namespace Go.Proofs.Ytmoalmpcobljkaa
open Go.RowKit
open V

theorem cell_lt {W : World} {p : Addr} {v : Value} (h : W.cell? p = some v) : p.block < W.heap.size := by
  rcases Nat.lt_or_ge p.block W.heap.size with h' | h'
  · exact h'
  · simp [World.cell?, Array.getElem?_eq_none h'] at h
theorem cell_on {W w1 : World} {p : Addr} {v : Value} (hb : Below W.heap.size W w1) (h : W.cell? p = some v) : w1.cell? p = some v := by
  rw [hb.cell (cell_lt h)]; exact h

/-- Three boxed facts stand in a world, with their arguments. -/
structure Bx3 (W : World) (b : Nat) (f g h : Fb) : Prop where
  a0 : W.cell? ⟨b, 0, none⟩ = some (.string f.n)
  a1 : W.cell? ⟨b, 1, none⟩ = some (.slice f.a f.len f.cap)
  b0 : W.cell? ⟨b + 1, 0, none⟩ = some (.string g.n)
  b1 : W.cell? ⟨b + 1, 1, none⟩ = some (.slice g.a g.len g.cap)
  c0 : W.cell? ⟨b + 1 + 1, 0, none⟩ = some (.string h.n)
  c1 : W.cell? ⟨b + 1 + 1, 1, none⟩ = some (.slice h.a h.len h.cap)
  f : f.In W
  g : g.In W
  h : h.In W
theorem Bx3.on {W w1 : World} {b : Nat} {f g h : Fb} (B : Bx3 W b f g h) (hb : Below W.heap.size W w1) : Bx3 w1 b f g h :=
  ⟨cell_on hb B.a0, cell_on hb B.a1, cell_on hb B.b0, cell_on hb B.b1, cell_on hb B.c0, cell_on hb B.c1, B.f.on hb, B.g.on hb, B.h.on hb⟩
theorem pair_of {W : World} {b : Nat} {x y : Value} {T : TypeId} (h : W.heap[b]? = some (.cells #[x, y] T)) : W.cell? ⟨b, 0, none⟩ = some x ∧ W.cell? ⟨b, 1, none⟩ = some y :=
  ⟨by rw [Lib.cell_of_heap h]; rfl, by rw [Lib.cell_of_heap h]; rfl⟩

/-- The three boxes' objects. -/
abbrev bxO (f : Fb) : Obj := .cells #[.string f.n, .slice f.a f.len f.cap] 27
theorem bx3 (w : World) (f g h : Fb) (hf : f.In w) (hg : g.In w) (hh : h.In w) : Bx3 (((w.alloc (bxO f)).alloc (bxO g)).alloc (bxO h)) w.heap.size f g h := by
  have hb : Below w.heap.size w (((w.alloc (bxO f)).alloc (bxO g)).alloc (bxO h)) := (((Below.refl _ _).alloc (Nat.le_refl _) _).alloc (by simp) _).alloc (by simp; omega) _
  have s1 : (w.alloc (bxO f)).heap.size = w.heap.size + 1 := by simp
  have s2 : ((w.alloc (bxO f)).alloc (bxO g)).heap.size = w.heap.size + 1 + 1 := by simp
  have h3 := heap_alloc_new ((w.alloc (bxO f)).alloc (bxO g)) (bxO h)
  have h2 := heap_alloc_new (w.alloc (bxO f)) (bxO g)
  have h1 := heap_alloc_new w (bxO f)
  rw [s2] at h3
  rw [s1] at h2
  rw [← Lib.alloc_old _ (bxO h) _ (by rw [s2]; omega)] at h2
  rw [← Lib.alloc_old _ (bxO g) _ (by rw [s1]; omega), ← Lib.alloc_old _ (bxO h) _ (by rw [s2]; omega)] at h1
  obtain ⟨x0, x1⟩ := pair_of h1
  obtain ⟨y0, y1⟩ := pair_of h2
  obtain ⟨z0, z1⟩ := pair_of h3
  exact ⟨x0, x1, y0, y1, z0, z1, hf.on hb, hg.on hb, hh.on hb⟩

theorem in_drew (f : Fb) (w : World) : f.In w.drew ↔ f.In w :=
  ⟨fun h => ⟨h.row, h.len⟩, fun h => ⟨h.row, h.len⟩⟩
/-- The cells of a row of facts. -/
def flatF : List Fb → List Value
  | [] => []
  | f :: r => .string f.n :: .slice f.a f.len f.cap :: flatF r
theorem flatF_get (fs : List Fb) : ∀ (i : Nat) (f : Fb), fs[i]? = some f → (flatF fs)[i * 2]? = some (.string f.n) ∧ (flatF fs)[i * 2 + 1]? = some (.slice f.a f.len f.cap) := by
  induction fs with
  | nil => intro i v h; simp at h
  | cons x r ih =>
    intro i v h
    cases i with
    | zero => simp at h; subst h; simp [flatF]
    | succ i =>
      have := ih i v (by simpa using h)
      rw [show (i + 1) * 2 = i * 2 + 2 by omega]
      simpa [flatF] using this
theorem rowF_of {w : World} {b : Nat} {fs : List Fb} {T : TypeId} (h : w.heap[b]? = some (.cells (flatF fs).toArray T)) (hin : ∀ f ∈ fs, f.In w) : RowF w (some ⟨b, 0, none⟩) fs := by
  refine ⟨hin, Or.inr ⟨b, 0, rfl, (Array.getElem?_eq_some_iff.1 h).1, fun i v hv => ?_⟩⟩
  obtain ⟨h0, h1⟩ := flatF_get fs i v hv
  rw [Lib.cell_of_heap h, Lib.cell_of_heap h]
  simpa using ⟨h0, h1⟩
abbrev rowO (fs : List Fb) : Obj := .cells (flatF fs).toArray 27
/-- Two rows laid one behind the other. -/
theorem rows_two (w : World) (fs gs : List Fb) (hf : ∀ f ∈ fs, f.In w) (hg : ∀ f ∈ gs, f.In w) :
    RowF ((w.alloc (rowO fs)).alloc (rowO gs)) (some ⟨w.heap.size, 0, none⟩) fs ∧ RowF ((w.alloc (rowO fs)).alloc (rowO gs)) (some ⟨w.heap.size + 1, 0, none⟩) gs ∧ Below w.heap.size w ((w.alloc (rowO fs)).alloc (rowO gs)) := by
  have hb : Below w.heap.size w ((w.alloc (rowO fs)).alloc (rowO gs)) := ((Below.refl _ _).alloc (Nat.le_refl _) _).alloc (by simp) _
  have h1 := heap_alloc_new w (rowO fs)
  have h2 := heap_alloc_new (w.alloc (rowO fs)) (rowO gs)
  have s1 : (w.alloc (rowO fs)).heap.size = w.heap.size + 1 := by simp
  rw [s1] at h2
  rw [← Lib.alloc_old _ (rowO gs) _ (by rw [s1]; omega)] at h1
  exact ⟨rowF_of h1 (fun f h => (hf f h).on hb), rowF_of h2 (fun f h => (hg f h).on hb), hb⟩
end Go.Proofs.Ytmoalmpcobljkaa
