/- Rows of values in new memory. -/
import Derived.Test.YtmoalmpcobljkaaFactJ
import Derived.Deep.DeepAppendWide
import Derived.Laws.AppendOwnNone
namespace Go.Proofs.Ytmoalmpcobljkaa
open Go.RowKit
open V

theorem info44 : (Try.prog.info? 40).map (fun i => (i.zero, i.size, i.bytes)) = some (some (.agg #[.int .i64 0, .int .i64 0, .string ⟨#[]⟩]), 3, 32) := by kernel_rfl

theorem flat_cells {W : World} {b : Nat} (vs : List Vb) : ∀ (o : Nat), (∀ (i : Nat) (v : Vb), vs[i]? = some v → W.cell? ⟨b, o + i * 3, none⟩ = some (.int .i64 v.k) ∧ W.cell? ⟨b, o + i * 3 + 1, none⟩ = some (.int .i64 v.n) ∧ W.cell? ⟨b, o + i * 3 + 2, none⟩ = some (.string v.s)) → ∀ (j : Nat) (u : Value), (flatV vs)[j]? = some u → W.cell? ⟨b, o + j, none⟩ = some u := by
  induction vs with
  | nil => intro o _ j u h; simp [flatV] at h
  | cons x r ih =>
    intro o hc j u h
    match j with
    | 0 =>
      simp [flatV] at h; subst h
      have := (hc 0 x rfl).1
      simpa using this
    | 1 =>
      simp [flatV] at h; subst h
      have := (hc 0 x rfl).2.1
      simpa using this
    | 2 =>
      simp [flatV] at h; subst h
      have := (hc 0 x rfl).2.2
      simpa using this
    | j + 3 =>
      have := ih (o + 3) (fun i v hv => by
        have := hc (i + 1) v (by simpa using hv)
        rw [show o + (i + 1) * 3 = o + 3 + i * 3 by omega] at this
        exact this) j u (by simpa [flatV] using h)
      rw [show o + (j + 3) = o + 3 + j by omega]
      exact this
theorem flat_one (vs : List Vb) : ∀ u ∈ flatV vs, u.oneCell' = true := by
  induction vs with
  | nil => intro u h; simp [flatV] at h
  | cons x r ih =>
    intro u h
    simp only [flatV, List.mem_cons] at h
    rcases h with rfl | rfl | rfl | h
    · rfl
    · rfl
    · rfl
    · exact ih u h
theorem flat_len (vs : List Vb) : (flatV vs).length = vs.length * 3 := by
  induction vs with
  | nil => rfl
  | cons x r ih => simp [flatV, ih]; omega


theorem rowV_own {w : World} {B n cp : Nat} {ao : Option Addr} {vs : List Vb} (h : w.ownsRow B 40 3 (.slice ao n cp) n (flatV vs)) (hn : n = vs.length) : RowV w ao vs := by
  rcases h.2 with ⟨_, h0⟩ | ⟨g, cap, cur, hv, _, hg, _, _, _, ht⟩
  · left; exact List.eq_nil_of_length_eq_zero (by omega)
  · simp only [Value.slice.injEq] at hv
    obtain ⟨rfl, _, _⟩ := hv
    refine Or.inr ⟨g, 0, rfl, (Array.getElem?_eq_some_iff.1 hg).1, fun i v hv => ?_⟩
    have hi : i < n := by rw [hn]; exact (List.getElem?_eq_some_iff.1 hv).1
    obtain ⟨h0, h1, h2⟩ := flatV_get vs i v hv
    rw [← ht] at h0 h1 h2
    rw [List.getElem?_take_of_lt (by omega), Array.getElem?_toList] at h0 h1 h2
    rw [Lib.cell_of_heap hg, Lib.cell_of_heap hg, Lib.cell_of_heap hg]
    simpa using ⟨h0, h1, h2⟩

/-- The law's three boxes: what is handed in, the answer, the twin. -/
abbrev twA (n : ByteArray) (a : Option Addr) (len cap : Nat) : Obj := .cells #[.string n, .slice a len cap] 27
theorem tw_world (w : World) (A B C : Obj) : Below w.heap.size w (((w.alloc A).alloc B).alloc C) ∧ (((w.alloc A).alloc B).alloc C).heap[w.heap.size + 1]? = some B ∧ (((w.alloc A).alloc B).alloc C).heap[w.heap.size + 1 + 1]? = some C ∧ (((w.alloc A).alloc B).alloc C).heap.size = w.heap.size + 3 := by
  have s1 : (w.alloc A).heap.size = w.heap.size + 1 := by simp
  have s2 : ((w.alloc A).alloc B).heap.size = w.heap.size + 1 + 1 := by simp
  have h3 := heap_alloc_new ((w.alloc A).alloc B) C
  have h2 := heap_alloc_new (w.alloc A) B
  rw [s2] at h3
  rw [s1] at h2
  rw [← Lib.alloc_old _ C _ (by rw [s2]; omega)] at h2
  exact ⟨(((Below.refl _ _).alloc (Nat.le_refl _) _).alloc (by simp) _).alloc (by simp; omega) _, h2, h3, by simp⟩

end Go.Proofs.Ytmoalmpcobljkaa
