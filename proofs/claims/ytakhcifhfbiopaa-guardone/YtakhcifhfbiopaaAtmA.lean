/- Boxes of two cells and of three blocks; an atom's box. -/
import Derived.Test.YtakhcifhfbiopaaSubG
namespace Go.Proofs.Ytakhcifhfbiopaa.Sb
open Go.RowKit
open V
theorem pair_of {W : World} {b : Nat} {x y : Value} {T : TypeId} (h : W.heap[b]? = some (.cells #[x, y] T)) : W.cell? ⟨b, 0, none⟩ = some x ∧ W.cell? ⟨b, 1, none⟩ = some y :=
  ⟨by rw [Lib.cell_of_heap h]; rfl, by rw [Lib.cell_of_heap h]; rfl⟩
abbrev bxA (n : ByteArray) (a : Option Addr) (len cap : Nat) : Obj := .cells #[.string n, .slice a len cap] 26
theorem lies_drew {w : World} {a : Option Addr} {n cap : Nat} {xs : List Bb} (h : Lies w a n cap xs) : Lies w.drew a n cap xs := h.on (Below.refl _ _).drew
theorem three_of (w : World) (A B C : Obj) : Below w.heap.size w (((w.alloc A).alloc B).alloc C) ∧ (((w.alloc A).alloc B).alloc C).heap[w.heap.size]? = some A ∧ (((w.alloc A).alloc B).alloc C).heap[w.heap.size + 1]? = some B ∧ (((w.alloc A).alloc B).alloc C).heap[w.heap.size + 1 + 1]? = some C := by
  have s1 : (w.alloc A).heap.size = w.heap.size + 1 := by simp
  have s2 : ((w.alloc A).alloc B).heap.size = w.heap.size + 1 + 1 := by simp
  have h0 := heap_alloc_new w A
  have h1 := heap_alloc_new (w.alloc A) B
  have h2 := heap_alloc_new ((w.alloc A).alloc B) C
  rw [s1] at h1
  rw [s2] at h2
  refine ⟨(((Below.refl _ _).alloc (Nat.le_refl _) _).alloc (by omega) _).alloc (by omega) _, ?_, ?_, h2⟩
  · rw [Lib.alloc_old _ _ _ (by omega), Lib.alloc_old _ _ _ (by omega)]; exact h0
  · rw [Lib.alloc_old _ _ _ (by omega)]; exact h1
end Go.Proofs.Ytakhcifhfbiopaa.Sb
