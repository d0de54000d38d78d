/- The walk of constablelaw07.ExprBad: it answers true, whatever the number. -/
import Derived.Test.YtnomndpoklolfaaExpW
import Derived.Test.YtnomndpoklolfaaExqD
namespace Go.Proofs.Ytnomndpoklolfaa.Sb
open Go.RowKit
open V
open Ex (RowO LiesO flatO flatO_len flatO_app flatO_oneCell liesO_own liesO_none liesO_lit)

theorem three_of (w : World) (A B C : Obj) : Below w.heap.size w (((w.alloc A).alloc B).alloc C) ∧ (((w.alloc A).alloc B).alloc C).heap[w.heap.size]? = some A ∧ (((w.alloc A).alloc B).alloc C).heap[w.heap.size + 1]? = some B ∧ (((w.alloc A).alloc B).alloc C).heap[w.heap.size + 1 + 1]? = some C := by
  obtain ⟨h0, h1, h2, h3, -, -⟩ := four_of w A B C C
  have s1 : (w.alloc A).heap.size = w.heap.size + 1 := by simp
  have s2 : ((w.alloc A).alloc B).heap.size = w.heap.size + 1 + 1 := by simp
  have k1 := heap_alloc_new (w.alloc A) B
  have k2 := heap_alloc_new ((w.alloc A).alloc B) C
  rw [s1] at k1
  rw [s2] at k2
  exact ⟨(((Below.refl _ _).alloc (Nat.le_refl _) _).alloc (by omega) _).alloc (by omega) _, heap_alloc (heap_alloc (heap_alloc_new w A) _) _, heap_alloc k1 _, k2⟩
theorem quint_a {w : World} {b : Nat} (h : w.heap[b]? = some (bxO aN)) : w.cell? ⟨b, 0, none⟩ = some (.int .i64 3) ∧ w.cell? ⟨b, 1, none⟩ = some (.string ⟨#[]⟩) ∧ w.cell? ⟨b, 2, none⟩ = some (.int .i64 0) ∧ w.cell? ⟨b, 3, none⟩ = some (.int .i64 0) ∧ w.cell? ⟨b, 4, none⟩ = some (.string ⟨#[]⟩) := quintO h
theorem quint_p {w : World} {b : Nat} (h : w.heap[b]? = some (bxO (pN 1))) : w.cell? ⟨b, 0, none⟩ = some (.int .i64 2) ∧ w.cell? ⟨b, 1, none⟩ = some (.string ⟨#[]⟩) ∧ w.cell? ⟨b, 2, none⟩ = some (.int .i64 1) ∧ w.cell? ⟨b, 3, none⟩ = some (.int .i64 1) ∧ w.cell? ⟨b, 4, none⟩ = some (.string ⟨#[]⟩) := quintO h

theorem below_more {a w : World} (h : Below a.heap.size a w) (o : Obj) : Below a.heap.size a (w.alloc o) := h.alloc h.size o
theorem lies_take {w : World} {a : Option Addr} {n cap m : Nat} {xs : List Oo} (h : LiesO w a n cap xs) (hm : m ≤ n) : LiesO w a m cap (xs.take m) := by
  refine ⟨?_, by rw [List.length_take, ← h.len]; omega, h.nil, Nat.le_trans hm h.cap⟩
  rcases h.row with h0 | ⟨b, o, ha, hb, hc⟩
  · exact Or.inl (by rw [h0, List.take_nil])
  · refine Or.inr ⟨b, o, ha, hb, fun i v hv => hc i v ?_⟩
    have hi : i < m := by
      have := (List.getElem?_eq_some_iff.1 hv).1
      rw [List.length_take] at this; omega
    rwa [List.getElem?_take_of_lt hi] at hv
def bigA (wr : World) : World := (((((((wr.alloc (.cells #[.int .i64 3, .string ⟨#[]⟩, .int .i64 0, .int .i64 0, .string ⟨#[]⟩] 44)).alloc (.cells #[.int .i64 2, .string ⟨#[]⟩, .int .i64 1, .int .i64 1, .string ⟨#[]⟩, .int .i64 3, .string ⟨#[]⟩, .int .i64 0, .int .i64 0, .string ⟨#[]⟩] 44)).alloc (.cells #[.int .i64 2, .string ⟨#[]⟩, .int .i64 1, .int .i64 1, .string ⟨#[]⟩, .int .i64 2, .string ⟨#[]⟩, .int .i64 1, .int .i64 1, .string ⟨#[]⟩] 44)).alloc (.cells #[.int .i64 1, .string ⟨#[120]⟩, .int .i64 0, .int .i64 0, .string ⟨#[]⟩] 44)).alloc (.cells #[.int .i64 2, .string ⟨#[]⟩, .int .i64 0, .int .i64 0, .string ⟨#[]⟩] 44)).alloc (.cells #[.int .i64 2, .string ⟨#[]⟩, .int .i64 1, .int .i64 1, .string ⟨#[]⟩, .int .i64 2, .string ⟨#[]⟩, .int .i64 1, .int .i64 1, .string ⟨#[]⟩, .int .i64 3, .string ⟨#[88]⟩, .int .i64 0, .int .i64 0, .string ⟨#[]⟩] 44)).alloc (.cells #[.int .i64 9, .string ⟨#[]⟩, .int .i64 0, .int .i64 0, .string ⟨#[]⟩] 44)).alloc (.cells #[.int .i64 2, .string ⟨#[]⟩, .int .i64 1, .int .i64 1, .string ⟨#[]⟩, .int .i64 2, .string ⟨#[]⟩, .int .i64 1, .int .i64 1, .string ⟨#[]⟩, .int .i64 3, .string ⟨#[]⟩, .int .i64 0, .int .i64 0, .string ⟨#[]⟩, .int .i64 3, .string ⟨#[]⟩, .int .i64 0, .int .i64 0, .string ⟨#[]⟩] 44)
def outB (wr : World) (qa : Option Addr) (ca : Nat) : List Value := [.slice none 0 0, .slice (some ⟨wr.heap.size, 0, none⟩) 1 1, .slice (some ⟨wr.heap.size + 1, 0, none⟩) 2 2, .slice (some ⟨wr.heap.size + 1 + 1, 0, none⟩) 2 2, .slice (some ⟨wr.heap.size + 1 + 1 + 1, 0, none⟩) 1 1, .slice (some ⟨wr.heap.size + 1 + 1 + 1 + 1, 0, none⟩) 1 1, .slice (some ⟨wr.heap.size + 1 + 1 + 1 + 1 + 1, 0, none⟩) 3 3, .slice qa 17 ca, .slice (some ⟨wr.heap.size + 1 + 1 + 1 + 1 + 1 + 1, 0, none⟩) 1 1, .slice (some ⟨wr.heap.size + 1 + 1 + 1 + 1 + 1 + 1 + 1, 0, none⟩) 4 4]
def bigW (wr : World) (qa : Option Addr) (ca : Nat) : World := ((((((((wr.alloc (.cells #[.int .i64 3, .string ⟨#[]⟩, .int .i64 0, .int .i64 0, .string ⟨#[]⟩] 44)).alloc (.cells #[.int .i64 2, .string ⟨#[]⟩, .int .i64 1, .int .i64 1, .string ⟨#[]⟩, .int .i64 3, .string ⟨#[]⟩, .int .i64 0, .int .i64 0, .string ⟨#[]⟩] 44)).alloc (.cells #[.int .i64 2, .string ⟨#[]⟩, .int .i64 1, .int .i64 1, .string ⟨#[]⟩, .int .i64 2, .string ⟨#[]⟩, .int .i64 1, .int .i64 1, .string ⟨#[]⟩] 44)).alloc (.cells #[.int .i64 1, .string ⟨#[120]⟩, .int .i64 0, .int .i64 0, .string ⟨#[]⟩] 44)).alloc (.cells #[.int .i64 2, .string ⟨#[]⟩, .int .i64 0, .int .i64 0, .string ⟨#[]⟩] 44)).alloc (.cells #[.int .i64 2, .string ⟨#[]⟩, .int .i64 1, .int .i64 1, .string ⟨#[]⟩, .int .i64 2, .string ⟨#[]⟩, .int .i64 1, .int .i64 1, .string ⟨#[]⟩, .int .i64 3, .string ⟨#[88]⟩, .int .i64 0, .int .i64 0, .string ⟨#[]⟩] 44)).alloc (.cells #[.int .i64 9, .string ⟨#[]⟩, .int .i64 0, .int .i64 0, .string ⟨#[]⟩] 44)).alloc (.cells #[.int .i64 2, .string ⟨#[]⟩, .int .i64 1, .int .i64 1, .string ⟨#[]⟩, .int .i64 2, .string ⟨#[]⟩, .int .i64 1, .int .i64 1, .string ⟨#[]⟩, .int .i64 3, .string ⟨#[]⟩, .int .i64 0, .int .i64 0, .string ⟨#[]⟩, .int .i64 3, .string ⟨#[]⟩, .int .i64 0, .int .i64 0, .string ⟨#[]⟩] 44)).alloc (.cells #[.slice none 0 0, .slice (some ⟨wr.heap.size, 0, none⟩) 1 1, .slice (some ⟨wr.heap.size + 1, 0, none⟩) 2 2, .slice (some ⟨wr.heap.size + 1 + 1, 0, none⟩) 2 2, .slice (some ⟨wr.heap.size + 1 + 1 + 1, 0, none⟩) 1 1, .slice (some ⟨wr.heap.size + 1 + 1 + 1 + 1, 0, none⟩) 1 1, .slice (some ⟨wr.heap.size + 1 + 1 + 1 + 1 + 1, 0, none⟩) 3 3, .slice qa 17 ca, .slice (some ⟨wr.heap.size + 1 + 1 + 1 + 1 + 1 + 1, 0, none⟩) 1 1, .slice (some ⟨wr.heap.size + 1 + 1 + 1 + 1 + 1 + 1 + 1, 0, none⟩) 4 4] 22)
theorem big_eq (wr : World) (qa : Option Addr) (ca : Nat) : bigW wr qa ca = (bigA wr).alloc (.cells (outB wr qa ca).toArray 22) := rfl
theorem bigA_below {w wr : World} (h : Below w.heap.size w wr) : Below w.heap.size w (bigA wr) := below_more (below_more (below_more (below_more (below_more (below_more (below_more (below_more h _) _) _) _) _) _) _) _
theorem bigA_at (wr : World) : (bigA wr).heap[wr.heap.size]? = some (.cells #[.int .i64 3, .string ⟨#[]⟩, .int .i64 0, .int .i64 0, .string ⟨#[]⟩] 44) ∧ (bigA wr).heap[wr.heap.size + 1]? = some (.cells #[.int .i64 2, .string ⟨#[]⟩, .int .i64 1, .int .i64 1, .string ⟨#[]⟩, .int .i64 3, .string ⟨#[]⟩, .int .i64 0, .int .i64 0, .string ⟨#[]⟩] 44) ∧ (bigA wr).heap[wr.heap.size + 1 + 1]? = some (.cells #[.int .i64 2, .string ⟨#[]⟩, .int .i64 1, .int .i64 1, .string ⟨#[]⟩, .int .i64 2, .string ⟨#[]⟩, .int .i64 1, .int .i64 1, .string ⟨#[]⟩] 44) ∧ (bigA wr).heap[wr.heap.size + 1 + 1 + 1]? = some (.cells #[.int .i64 1, .string ⟨#[120]⟩, .int .i64 0, .int .i64 0, .string ⟨#[]⟩] 44) ∧ (bigA wr).heap[wr.heap.size + 1 + 1 + 1 + 1]? = some (.cells #[.int .i64 2, .string ⟨#[]⟩, .int .i64 0, .int .i64 0, .string ⟨#[]⟩] 44) ∧ (bigA wr).heap[wr.heap.size + 1 + 1 + 1 + 1 + 1]? = some (.cells #[.int .i64 2, .string ⟨#[]⟩, .int .i64 1, .int .i64 1, .string ⟨#[]⟩, .int .i64 2, .string ⟨#[]⟩, .int .i64 1, .int .i64 1, .string ⟨#[]⟩, .int .i64 3, .string ⟨#[88]⟩, .int .i64 0, .int .i64 0, .string ⟨#[]⟩] 44) ∧ (bigA wr).heap[wr.heap.size + 1 + 1 + 1 + 1 + 1 + 1]? = some (.cells #[.int .i64 9, .string ⟨#[]⟩, .int .i64 0, .int .i64 0, .string ⟨#[]⟩] 44) ∧ (bigA wr).heap[wr.heap.size + 1 + 1 + 1 + 1 + 1 + 1 + 1]? = some (.cells #[.int .i64 2, .string ⟨#[]⟩, .int .i64 1, .int .i64 1, .string ⟨#[]⟩, .int .i64 2, .string ⟨#[]⟩, .int .i64 1, .int .i64 1, .string ⟨#[]⟩, .int .i64 3, .string ⟨#[]⟩, .int .i64 0, .int .i64 0, .string ⟨#[]⟩, .int .i64 3, .string ⟨#[]⟩, .int .i64 0, .int .i64 0, .string ⟨#[]⟩] 44) := by
  have h0 := heap_alloc_new wr (.cells #[.int .i64 3, .string ⟨#[]⟩, .int .i64 0, .int .i64 0, .string ⟨#[]⟩] 44)
  have h1 := heap_alloc_new (wr.alloc (.cells #[.int .i64 3, .string ⟨#[]⟩, .int .i64 0, .int .i64 0, .string ⟨#[]⟩] 44)) (.cells #[.int .i64 2, .string ⟨#[]⟩, .int .i64 1, .int .i64 1, .string ⟨#[]⟩, .int .i64 3, .string ⟨#[]⟩, .int .i64 0, .int .i64 0, .string ⟨#[]⟩] 44)
  rw [show (wr.alloc (.cells #[.int .i64 3, .string ⟨#[]⟩, .int .i64 0, .int .i64 0, .string ⟨#[]⟩] 44)).heap.size = wr.heap.size + 1 by simp] at h1
  have h2 := heap_alloc_new ((wr.alloc (.cells #[.int .i64 3, .string ⟨#[]⟩, .int .i64 0, .int .i64 0, .string ⟨#[]⟩] 44)).alloc (.cells #[.int .i64 2, .string ⟨#[]⟩, .int .i64 1, .int .i64 1, .string ⟨#[]⟩, .int .i64 3, .string ⟨#[]⟩, .int .i64 0, .int .i64 0, .string ⟨#[]⟩] 44)) (.cells #[.int .i64 2, .string ⟨#[]⟩, .int .i64 1, .int .i64 1, .string ⟨#[]⟩, .int .i64 2, .string ⟨#[]⟩, .int .i64 1, .int .i64 1, .string ⟨#[]⟩] 44)
  rw [show ((wr.alloc (.cells #[.int .i64 3, .string ⟨#[]⟩, .int .i64 0, .int .i64 0, .string ⟨#[]⟩] 44)).alloc (.cells #[.int .i64 2, .string ⟨#[]⟩, .int .i64 1, .int .i64 1, .string ⟨#[]⟩, .int .i64 3, .string ⟨#[]⟩, .int .i64 0, .int .i64 0, .string ⟨#[]⟩] 44)).heap.size = wr.heap.size + 1 + 1 by simp] at h2
  have h3 := heap_alloc_new (((wr.alloc (.cells #[.int .i64 3, .string ⟨#[]⟩, .int .i64 0, .int .i64 0, .string ⟨#[]⟩] 44)).alloc (.cells #[.int .i64 2, .string ⟨#[]⟩, .int .i64 1, .int .i64 1, .string ⟨#[]⟩, .int .i64 3, .string ⟨#[]⟩, .int .i64 0, .int .i64 0, .string ⟨#[]⟩] 44)).alloc (.cells #[.int .i64 2, .string ⟨#[]⟩, .int .i64 1, .int .i64 1, .string ⟨#[]⟩, .int .i64 2, .string ⟨#[]⟩, .int .i64 1, .int .i64 1, .string ⟨#[]⟩] 44)) (.cells #[.int .i64 1, .string ⟨#[120]⟩, .int .i64 0, .int .i64 0, .string ⟨#[]⟩] 44)
  rw [show (((wr.alloc (.cells #[.int .i64 3, .string ⟨#[]⟩, .int .i64 0, .int .i64 0, .string ⟨#[]⟩] 44)).alloc (.cells #[.int .i64 2, .string ⟨#[]⟩, .int .i64 1, .int .i64 1, .string ⟨#[]⟩, .int .i64 3, .string ⟨#[]⟩, .int .i64 0, .int .i64 0, .string ⟨#[]⟩] 44)).alloc (.cells #[.int .i64 2, .string ⟨#[]⟩, .int .i64 1, .int .i64 1, .string ⟨#[]⟩, .int .i64 2, .string ⟨#[]⟩, .int .i64 1, .int .i64 1, .string ⟨#[]⟩] 44)).heap.size = wr.heap.size + 1 + 1 + 1 by simp] at h3
  have h4 := heap_alloc_new ((((wr.alloc (.cells #[.int .i64 3, .string ⟨#[]⟩, .int .i64 0, .int .i64 0, .string ⟨#[]⟩] 44)).alloc (.cells #[.int .i64 2, .string ⟨#[]⟩, .int .i64 1, .int .i64 1, .string ⟨#[]⟩, .int .i64 3, .string ⟨#[]⟩, .int .i64 0, .int .i64 0, .string ⟨#[]⟩] 44)).alloc (.cells #[.int .i64 2, .string ⟨#[]⟩, .int .i64 1, .int .i64 1, .string ⟨#[]⟩, .int .i64 2, .string ⟨#[]⟩, .int .i64 1, .int .i64 1, .string ⟨#[]⟩] 44)).alloc (.cells #[.int .i64 1, .string ⟨#[120]⟩, .int .i64 0, .int .i64 0, .string ⟨#[]⟩] 44)) (.cells #[.int .i64 2, .string ⟨#[]⟩, .int .i64 0, .int .i64 0, .string ⟨#[]⟩] 44)
  rw [show ((((wr.alloc (.cells #[.int .i64 3, .string ⟨#[]⟩, .int .i64 0, .int .i64 0, .string ⟨#[]⟩] 44)).alloc (.cells #[.int .i64 2, .string ⟨#[]⟩, .int .i64 1, .int .i64 1, .string ⟨#[]⟩, .int .i64 3, .string ⟨#[]⟩, .int .i64 0, .int .i64 0, .string ⟨#[]⟩] 44)).alloc (.cells #[.int .i64 2, .string ⟨#[]⟩, .int .i64 1, .int .i64 1, .string ⟨#[]⟩, .int .i64 2, .string ⟨#[]⟩, .int .i64 1, .int .i64 1, .string ⟨#[]⟩] 44)).alloc (.cells #[.int .i64 1, .string ⟨#[120]⟩, .int .i64 0, .int .i64 0, .string ⟨#[]⟩] 44)).heap.size = wr.heap.size + 1 + 1 + 1 + 1 by simp] at h4
  have h5 := heap_alloc_new (((((wr.alloc (.cells #[.int .i64 3, .string ⟨#[]⟩, .int .i64 0, .int .i64 0, .string ⟨#[]⟩] 44)).alloc (.cells #[.int .i64 2, .string ⟨#[]⟩, .int .i64 1, .int .i64 1, .string ⟨#[]⟩, .int .i64 3, .string ⟨#[]⟩, .int .i64 0, .int .i64 0, .string ⟨#[]⟩] 44)).alloc (.cells #[.int .i64 2, .string ⟨#[]⟩, .int .i64 1, .int .i64 1, .string ⟨#[]⟩, .int .i64 2, .string ⟨#[]⟩, .int .i64 1, .int .i64 1, .string ⟨#[]⟩] 44)).alloc (.cells #[.int .i64 1, .string ⟨#[120]⟩, .int .i64 0, .int .i64 0, .string ⟨#[]⟩] 44)).alloc (.cells #[.int .i64 2, .string ⟨#[]⟩, .int .i64 0, .int .i64 0, .string ⟨#[]⟩] 44)) (.cells #[.int .i64 2, .string ⟨#[]⟩, .int .i64 1, .int .i64 1, .string ⟨#[]⟩, .int .i64 2, .string ⟨#[]⟩, .int .i64 1, .int .i64 1, .string ⟨#[]⟩, .int .i64 3, .string ⟨#[88]⟩, .int .i64 0, .int .i64 0, .string ⟨#[]⟩] 44)
  rw [show (((((wr.alloc (.cells #[.int .i64 3, .string ⟨#[]⟩, .int .i64 0, .int .i64 0, .string ⟨#[]⟩] 44)).alloc (.cells #[.int .i64 2, .string ⟨#[]⟩, .int .i64 1, .int .i64 1, .string ⟨#[]⟩, .int .i64 3, .string ⟨#[]⟩, .int .i64 0, .int .i64 0, .string ⟨#[]⟩] 44)).alloc (.cells #[.int .i64 2, .string ⟨#[]⟩, .int .i64 1, .int .i64 1, .string ⟨#[]⟩, .int .i64 2, .string ⟨#[]⟩, .int .i64 1, .int .i64 1, .string ⟨#[]⟩] 44)).alloc (.cells #[.int .i64 1, .string ⟨#[120]⟩, .int .i64 0, .int .i64 0, .string ⟨#[]⟩] 44)).alloc (.cells #[.int .i64 2, .string ⟨#[]⟩, .int .i64 0, .int .i64 0, .string ⟨#[]⟩] 44)).heap.size = wr.heap.size + 1 + 1 + 1 + 1 + 1 by simp] at h5
  have h6 := heap_alloc_new ((((((wr.alloc (.cells #[.int .i64 3, .string ⟨#[]⟩, .int .i64 0, .int .i64 0, .string ⟨#[]⟩] 44)).alloc (.cells #[.int .i64 2, .string ⟨#[]⟩, .int .i64 1, .int .i64 1, .string ⟨#[]⟩, .int .i64 3, .string ⟨#[]⟩, .int .i64 0, .int .i64 0, .string ⟨#[]⟩] 44)).alloc (.cells #[.int .i64 2, .string ⟨#[]⟩, .int .i64 1, .int .i64 1, .string ⟨#[]⟩, .int .i64 2, .string ⟨#[]⟩, .int .i64 1, .int .i64 1, .string ⟨#[]⟩] 44)).alloc (.cells #[.int .i64 1, .string ⟨#[120]⟩, .int .i64 0, .int .i64 0, .string ⟨#[]⟩] 44)).alloc (.cells #[.int .i64 2, .string ⟨#[]⟩, .int .i64 0, .int .i64 0, .string ⟨#[]⟩] 44)).alloc (.cells #[.int .i64 2, .string ⟨#[]⟩, .int .i64 1, .int .i64 1, .string ⟨#[]⟩, .int .i64 2, .string ⟨#[]⟩, .int .i64 1, .int .i64 1, .string ⟨#[]⟩, .int .i64 3, .string ⟨#[88]⟩, .int .i64 0, .int .i64 0, .string ⟨#[]⟩] 44)) (.cells #[.int .i64 9, .string ⟨#[]⟩, .int .i64 0, .int .i64 0, .string ⟨#[]⟩] 44)
  rw [show ((((((wr.alloc (.cells #[.int .i64 3, .string ⟨#[]⟩, .int .i64 0, .int .i64 0, .string ⟨#[]⟩] 44)).alloc (.cells #[.int .i64 2, .string ⟨#[]⟩, .int .i64 1, .int .i64 1, .string ⟨#[]⟩, .int .i64 3, .string ⟨#[]⟩, .int .i64 0, .int .i64 0, .string ⟨#[]⟩] 44)).alloc (.cells #[.int .i64 2, .string ⟨#[]⟩, .int .i64 1, .int .i64 1, .string ⟨#[]⟩, .int .i64 2, .string ⟨#[]⟩, .int .i64 1, .int .i64 1, .string ⟨#[]⟩] 44)).alloc (.cells #[.int .i64 1, .string ⟨#[120]⟩, .int .i64 0, .int .i64 0, .string ⟨#[]⟩] 44)).alloc (.cells #[.int .i64 2, .string ⟨#[]⟩, .int .i64 0, .int .i64 0, .string ⟨#[]⟩] 44)).alloc (.cells #[.int .i64 2, .string ⟨#[]⟩, .int .i64 1, .int .i64 1, .string ⟨#[]⟩, .int .i64 2, .string ⟨#[]⟩, .int .i64 1, .int .i64 1, .string ⟨#[]⟩, .int .i64 3, .string ⟨#[88]⟩, .int .i64 0, .int .i64 0, .string ⟨#[]⟩] 44)).heap.size = wr.heap.size + 1 + 1 + 1 + 1 + 1 + 1 by simp] at h6
  have h7 := heap_alloc_new (((((((wr.alloc (.cells #[.int .i64 3, .string ⟨#[]⟩, .int .i64 0, .int .i64 0, .string ⟨#[]⟩] 44)).alloc (.cells #[.int .i64 2, .string ⟨#[]⟩, .int .i64 1, .int .i64 1, .string ⟨#[]⟩, .int .i64 3, .string ⟨#[]⟩, .int .i64 0, .int .i64 0, .string ⟨#[]⟩] 44)).alloc (.cells #[.int .i64 2, .string ⟨#[]⟩, .int .i64 1, .int .i64 1, .string ⟨#[]⟩, .int .i64 2, .string ⟨#[]⟩, .int .i64 1, .int .i64 1, .string ⟨#[]⟩] 44)).alloc (.cells #[.int .i64 1, .string ⟨#[120]⟩, .int .i64 0, .int .i64 0, .string ⟨#[]⟩] 44)).alloc (.cells #[.int .i64 2, .string ⟨#[]⟩, .int .i64 0, .int .i64 0, .string ⟨#[]⟩] 44)).alloc (.cells #[.int .i64 2, .string ⟨#[]⟩, .int .i64 1, .int .i64 1, .string ⟨#[]⟩, .int .i64 2, .string ⟨#[]⟩, .int .i64 1, .int .i64 1, .string ⟨#[]⟩, .int .i64 3, .string ⟨#[88]⟩, .int .i64 0, .int .i64 0, .string ⟨#[]⟩] 44)).alloc (.cells #[.int .i64 9, .string ⟨#[]⟩, .int .i64 0, .int .i64 0, .string ⟨#[]⟩] 44)) (.cells #[.int .i64 2, .string ⟨#[]⟩, .int .i64 1, .int .i64 1, .string ⟨#[]⟩, .int .i64 2, .string ⟨#[]⟩, .int .i64 1, .int .i64 1, .string ⟨#[]⟩, .int .i64 3, .string ⟨#[]⟩, .int .i64 0, .int .i64 0, .string ⟨#[]⟩, .int .i64 3, .string ⟨#[]⟩, .int .i64 0, .int .i64 0, .string ⟨#[]⟩] 44)
  rw [show (((((((wr.alloc (.cells #[.int .i64 3, .string ⟨#[]⟩, .int .i64 0, .int .i64 0, .string ⟨#[]⟩] 44)).alloc (.cells #[.int .i64 2, .string ⟨#[]⟩, .int .i64 1, .int .i64 1, .string ⟨#[]⟩, .int .i64 3, .string ⟨#[]⟩, .int .i64 0, .int .i64 0, .string ⟨#[]⟩] 44)).alloc (.cells #[.int .i64 2, .string ⟨#[]⟩, .int .i64 1, .int .i64 1, .string ⟨#[]⟩, .int .i64 2, .string ⟨#[]⟩, .int .i64 1, .int .i64 1, .string ⟨#[]⟩] 44)).alloc (.cells #[.int .i64 1, .string ⟨#[120]⟩, .int .i64 0, .int .i64 0, .string ⟨#[]⟩] 44)).alloc (.cells #[.int .i64 2, .string ⟨#[]⟩, .int .i64 0, .int .i64 0, .string ⟨#[]⟩] 44)).alloc (.cells #[.int .i64 2, .string ⟨#[]⟩, .int .i64 1, .int .i64 1, .string ⟨#[]⟩, .int .i64 2, .string ⟨#[]⟩, .int .i64 1, .int .i64 1, .string ⟨#[]⟩, .int .i64 3, .string ⟨#[88]⟩, .int .i64 0, .int .i64 0, .string ⟨#[]⟩] 44)).alloc (.cells #[.int .i64 9, .string ⟨#[]⟩, .int .i64 0, .int .i64 0, .string ⟨#[]⟩] 44)).heap.size = wr.heap.size + 1 + 1 + 1 + 1 + 1 + 1 + 1 by simp] at h7
  exact ⟨heap_alloc (heap_alloc (heap_alloc (heap_alloc (heap_alloc (heap_alloc (heap_alloc (h0) _) _) _) _) _) _) _, heap_alloc (heap_alloc (heap_alloc (heap_alloc (heap_alloc (heap_alloc (h1) _) _) _) _) _) _, heap_alloc (heap_alloc (heap_alloc (heap_alloc (heap_alloc (h2) _) _) _) _) _, heap_alloc (heap_alloc (heap_alloc (heap_alloc (h3) _) _) _) _, heap_alloc (heap_alloc (heap_alloc (h4) _) _) _, heap_alloc (heap_alloc (h5) _) _, heap_alloc (h6) _, h7⟩
theorem bad_at (wr : World) (qa : Option Addr) (ca : Nat) (hL : LiesO wr qa 17 ca (manyO 8)) (t : Nat) (ht : t < (outB wr qa ca).length) : ∃ l, l ∈ badO ∧ ∃ pa pn pc, (outB wr qa ca)[t] = .slice pa pn pc ∧ LiesO (bigA wr) pa pn pc l := by
  obtain ⟨h0, h1, h2, h3, h4, h5, h6, h7⟩ := bigA_at wr
  have hLb : LiesO (bigA wr) qa 17 ca (manyO 8) := hL.on (bigA_below (Below.refl _ _))
  match t, ht with
  | 0, _ => exact ⟨[], by simp [badO], none, 0, 0, rfl, liesO_none _⟩
  | 1, _ => exact ⟨[aN], by simp [badO], some ⟨wr.heap.size, 0, none⟩, 1, 1, rfl, liesO_lit (xs := [aN]) h0⟩
  | 2, _ => exact ⟨[pN 1, aN], by simp [badO], some ⟨wr.heap.size + 1, 0, none⟩, 2, 2, rfl, liesO_lit (xs := [pN 1, aN]) h1⟩
  | 3, _ => exact ⟨[pN 1, pN 1], by simp [badO], some ⟨wr.heap.size + 1 + 1, 0, none⟩, 2, 2, rfl, liesO_lit (xs := [pN 1, pN 1]) h2⟩
  | 4, _ => exact ⟨[(1, ⟨#[120]⟩, zeroV)], by simp [badO], some ⟨wr.heap.size + 1 + 1 + 1, 0, none⟩, 1, 1, rfl, liesO_lit (xs := [(1, ⟨#[120]⟩, zeroV)]) h3⟩
  | 5, _ => exact ⟨[(2, ⟨#[]⟩, zeroV)], by simp [badO], some ⟨wr.heap.size + 1 + 1 + 1 + 1, 0, none⟩, 1, 1, rfl, liesO_lit (xs := [(2, ⟨#[]⟩, zeroV)]) h4⟩
  | 6, _ => exact ⟨[pN 1, pN 1, (3, ⟨#[88]⟩, zeroV)], by simp [badO], some ⟨wr.heap.size + 1 + 1 + 1 + 1 + 1, 0, none⟩, 3, 3, rfl, liesO_lit (xs := [pN 1, pN 1, (3, ⟨#[88]⟩, zeroV)]) h5⟩
  | 7, _ => exact ⟨manyO 8, by simp [badO], qa, 17, ca, rfl, hLb⟩
  | 8, _ => exact ⟨[(9, ⟨#[]⟩, zeroV)], by simp [badO], some ⟨wr.heap.size + 1 + 1 + 1 + 1 + 1 + 1, 0, none⟩, 1, 1, rfl, liesO_lit (xs := [(9, ⟨#[]⟩, zeroV)]) h6⟩
  | 9, _ => exact ⟨[pN 1, pN 1, aN, aN], by simp [badO], some ⟨wr.heap.size + 1 + 1 + 1 + 1 + 1 + 1 + 1, 0, none⟩, 4, 4, rfl, liesO_lit (xs := [pN 1, pN 1, aN, aN]) h7⟩
  | t + 10, ht => exact absurd ht (by simp [outB])
theorem evalR_bad {b : List Bb} {l : List Oo} (h : exprB l = false) : evalR b l = ((0, 0, ⟨#[]⟩), 1) := by
  unfold evalR
  rw [if_neg (fun q => by rw [h] at q; exact absurd q.1 (by simp))]
  rfl
theorem partR_no {l : List Oo} {e : Int} (h : exprB l = false) : partR l e = -1 := by
  unfold partR
  rw [if_neg (fun q => by rw [h] at q; exact absurd q.1 (by simp))]
theorem many_lt : ∀ x ∈ manyO 7, LtO x := by
  have h : ∀ x ∈ manyO 7, x.2.1.size ≤ 200 ∧ x.2.2.2.2.size ≤ 200 := by decide +kernel
  exact h
theorem idx_of (h : Int) : 0 ≤ wrap64 ((IntKind.u64.wrap h).tmod 10) ∧ wrap64 ((IntKind.u64.wrap h).tmod 10) < 10 := by
  have h0 : 0 ≤ IntKind.u64.wrap h := by simp [IntKind.wrap, IntKind.bits, IntKind.signed]; omega
  generalize IntKind.u64.wrap h = m at h0
  rw [Int.tmod_eq_emod_of_nonneg h0]
  have e1 : wrap64 (m % 10) = m % 10 := by simp [wrap64]; omega
  rw [e1]
  omega

set_option maxHeartbeats 40000000 in
set_option maxRecDepth 100000 in
theorem bad_law (h : Int) (w : World) :
    Calls Try.prog 8 #[.int .i64 h] w fun e w' => e = .returned (.bool true) ∧ Below w.heap.size w w' := by
  obtain ⟨hb0, k0, k1, k2⟩ := three_of w (bxO (pN 1)) (bxO aN) (.cells (flatO [pN 1]).toArray 44)
  have HO : Hid (OwnO (((w.alloc (bxO (pN 1))).alloc (bxO aN)).alloc (.cells (flatO [pN 1]).toArray 44)) (w.heap.size + 1 + 1) (.slice (some ⟨w.heap.size + 1 + 1, 0, none⟩) 1 1) (manyO 0)) := hide (own_lit (xs := [pN 1]) (Nat.le_refl _) (by decide) k2)
  have K0 := hide k0
  have K1 := hide k1
  obtain ⟨x0, x1, x2, x3, x4⟩ := quint_p (heap_alloc (heap_alloc_new w (bxO (pN 1))) (bxO aN))
  clear k0 k1 k2
  go_enter Try.func8, Try.ntmps8
  go_wp2_with fail
  clear x0 x1 x2 x3 x4
  go_loopw [5, 6] (fun vm i wr => ∃ (k : Nat), k ≤ 8 ∧ i = .int .i64 k ∧ Hid (OwnO wr (w.heap.size + 1 + 1) vm (manyO k)) ∧ Hid (wr.heap[w.heap.size]? = some (bxO (pN 1))) ∧ Hid (wr.heap[w.heap.size + 1]? = some (bxO aN)) ∧ Below w.heap.size w wr) (fun _ i _ => 8 - (intOf i).toNat)
  case atStart => exact ⟨0, Nat.zero_le _, rfl, HO, K0, K1, hb0⟩
  case round =>
    clear HO K0 K1 hb0
    obtain ⟨k, hk, rfl, HO, K0, K1, hbw⟩ := hrel
    obtain ⟨x0, x1, x2, x3, x4⟩ := quint_p (unhide K0)
    obtain ⟨y0, y1, y2, y3, y4⟩ := quint_a (unhide K1)
    by_cases hlt : k < 8
    · have HN := hide (heap_alloc_new wr (.cells (flatO [pN 1, aN]).toArray 44))
      have HO2 := hide (ownO_alloc (unhide HO) (.cells (flatO [pN 1, aN]).toArray 44))
      have K02 := hide (heap_alloc (unhide K0) (.cells (flatO [pN 1, aN]).toArray 44))
      have K12 := hide (heap_alloc (unhide K1) (.cells (flatO [pN 1, aN]).toArray 44))
      have HB2 := hide (hbw.alloc hbw.size (.cells (flatO [pN 1, aN]).toArray 44))
      have HS : Hid (w.heap.size + 1 + 1 ≤ (wr.alloc (.cells (flatO [pN 1, aN]).toArray 44)).heap.size) := hide (by have := cell_lt y0; simp; omega)
      go_wp2_with (at_builtin; refine app_ops rfl _ _ rfl (w.heap.size + 1 + 1) u5 (manyO k) [pN 1, aN] 2 wr.heap.size rfl rfl (hide rfl) (unhide HO2) HN (by rw [many_len]; omega) (unhide HS) ?_)
      intro v' wa hown hg h5
      have K03 := hide (heap_beside (unhide K02) hg (fun m hm => by have := ownO_lt (unhide HO2) m hm; omega))
      have K13 := hide (heap_beside (unhide K12) hg (fun m hm => by have := ownO_lt (unhide HO2) m hm; omega))
      have hba := (unhide HB2).grown hg (unhide HB2).size (fun m hm => by have := ownO_lt (unhide HO2) m hm; omega)
      have HO3 : Hid (OwnO wa (w.heap.size + 1 + 1) v' (manyO (k + 1))) := hide hown
      clear HN HO2 K02 K12 HB2 HS hown hg h5 x0 x1 x2 x3 x4 y0 y1 y2 y3 y4 hbw HO K0 K1
      go_wp2_with fail
      go_roundw
      case rel => exact ⟨k + 1, by omega, by go_num, HO3, K03, K13, hba⟩
      case measure => simp [intOf]; omega
    · obtain rfl : k = 8 := by omega
      obtain ⟨qa, na, ca, rfl, hL⟩ := own_ops (unhide HO)
      obtain rfl : na = 17 := hL.len.trans (many_len 8)
      have hp0 := cell_lt x0
      have hp1 := cell_lt y0
      have hp01 : w.heap.size < wr.heap.size + 1 := by omega
      have hp11 : w.heap.size + 1 < wr.heap.size + 1 := by omega
      have hp02 : w.heap.size < wr.heap.size + 1 + 1 := by omega
      have hp12 : w.heap.size + 1 < wr.heap.size + 1 + 1 := by omega
      have hp03 : w.heap.size < wr.heap.size + 1 + 1 + 1 := by omega
      have hp13 : w.heap.size + 1 < wr.heap.size + 1 + 1 + 1 := by omega
      have hp04 : w.heap.size < wr.heap.size + 1 + 1 + 1 + 1 := by omega
      have hp14 : w.heap.size + 1 < wr.heap.size + 1 + 1 + 1 + 1 := by omega
      have hp05 : w.heap.size < wr.heap.size + 1 + 1 + 1 + 1 + 1 := by omega
      have hp15 : w.heap.size + 1 < wr.heap.size + 1 + 1 + 1 + 1 + 1 := by omega
      have hp06 : w.heap.size < wr.heap.size + 1 + 1 + 1 + 1 + 1 + 1 := by omega
      have hp16 : w.heap.size + 1 < wr.heap.size + 1 + 1 + 1 + 1 + 1 + 1 := by omega
      have hp07 : w.heap.size < wr.heap.size + 1 + 1 + 1 + 1 + 1 + 1 + 1 := by omega
      have hp17 : w.heap.size + 1 < wr.heap.size + 1 + 1 + 1 + 1 + 1 + 1 + 1 := by omega
      have hp08 : w.heap.size < wr.heap.size + 1 + 1 + 1 + 1 + 1 + 1 + 1 + 1 := by omega
      have hp18 : w.heap.size + 1 < wr.heap.size + 1 + 1 + 1 + 1 + 1 + 1 + 1 + 1 := by omega
      have hp09 : w.heap.size < wr.heap.size + 1 + 1 + 1 + 1 + 1 + 1 + 1 + 1 + 1 := by omega
      have hp19 : w.heap.size + 1 < wr.heap.size + 1 + 1 + 1 + 1 + 1 + 1 + 1 + 1 + 1 := by omega
      have hp010 : w.heap.size < wr.heap.size + 1 + 1 + 1 + 1 + 1 + 1 + 1 + 1 + 1 + 1 := by omega
      have hp110 : w.heap.size + 1 < wr.heap.size + 1 + 1 + 1 + 1 + 1 + 1 + 1 + 1 + 1 + 1 := by omega
      have hp011 : w.heap.size < wr.heap.size + 1 + 1 + 1 + 1 + 1 + 1 + 1 + 1 + 1 + 1 + 1 := by omega
      have hp111 : w.heap.size + 1 < wr.heap.size + 1 + 1 + 1 + 1 + 1 + 1 + 1 + 1 + 1 + 1 + 1 := by omega
      obtain ⟨i0, i1⟩ := idx_of h
      obtain ⟨l, hl, pa, pn, pc, hE, hP⟩ := bad_at wr qa ca hL (wrap64 ((IntKind.u64.wrap h).tmod 10)).toNat (by simp [outB]; omega)
      simp only [outB] at hE
      go_wp2_with fail
      have hPW : LiesO (bigW wr qa ca) pa pn pc l := by rw [big_eq]; exact hP.on ((Below.refl _ _).alloc (Nat.le_refl _) _)
      have hLW : LiesO (bigW wr qa ca) qa 17 ca (manyO 8) := by rw [big_eq]; exact hL.on (below_more (bigA_below (Below.refl _ _)) _)
      have hW : Below w.heap.size w (bigW wr qa ca) := by rw [big_eq]; exact below_more (bigA_below hbw) _
      have h15 : (15 : Int) ≤ (ca : Int) := by have := hL.cap; omega
      clear x0 x1 x2 x3 x4 y0 y1 y2 y3 y4 hp0 hp1 hp01 hp11 hp02 hp12 hp03 hp13 hp04 hp14 hp05 hp15 hp06 hp16 hp07 hp17 hp08 hp18 hp09 hp19 hp010 hp110 hp011 hp111 hL HO K0 K1 hbw hP hE i0 i1 hk hlt
      change Calls Try.prog 13 _ (bigW wr qa ca) _
      generalize bigW wr qa ca = W at hPW hLW hW
      have HNO := hide (bad_none l hl)
      have HSH := hide (bad_short l hl)
      have HLT : Hid (∀ x ∈ l, LtO x) := hide ((unhide HSH).2)
      have HPN : Hid (pn ≤ 1000) := hide (by rw [hPW.len]; have := (unhide HSH).1; omega)
      clear hl
      refine (eval_any pa pn pc l none 0 0 [] (0, 0, ⟨#[]⟩) 1 W hPW (unhide HLT) (unhide HPN) (lies_none _) (by intro x hx; cases hx) (hide (evalR_bad (unhide HNO)))).mono ?_
      rintro e wa ⟨rfl, hba⟩
      have hbx : Below wa.heap.size wa (wa.alloc (bxV (0, 0, ⟨#[]⟩))) := (Below.refl _ _).alloc (Nat.le_refl _) _
      have hwa := bt (bt hW hba) hbx
      have hPa := (hPW.on hba).on hbx
      have hLa := (hLW.on hba).on hbx
      obtain ⟨x0, x1, x2⟩ := trip_of (v := (0, 0, ⟨#[]⟩)) (heap_alloc_new wa (bxV (0, 0, ⟨#[]⟩)))
      simp only at x0 x1 x2
      clear hPW hLW hW hba hbx
      go_wp2_with fail
      generalize wa.alloc (bxV (0, 0, ⟨#[]⟩)) = W1 at hwa hPa hLa x0 x1 x2
      generalize wa.heap.size = b1 at x0 x1 x2
      have hL7 : LiesO W1 qa 15 ca (manyO 7) := by
        have := lies_take hLa (show 15 ≤ 17 by decide)
        rwa [many_take] at this
      refine (eval_any qa 15 ca (manyO 7) none 0 0 [] (1, 8, ⟨#[]⟩) 0 W1 hL7 many_lt (by decide) (lies_none _) (by intro x hx; cases hx) (hide many_eval)).mono ?_
      rintro e wb ⟨rfl, hbb⟩
      have hbx : Below wb.heap.size wb (wb.alloc (bxV (1, 8, ⟨#[]⟩))) := (Below.refl _ _).alloc (Nat.le_refl _) _
      have hwb := bt (bt hwa hbb) hbx
      have hPb := (hPa.on hbb).on hbx
      replace x0 := cell_on hbx (cell_on hbb x0)
      replace x1 := cell_on hbx (cell_on hbb x1)
      replace x2 := cell_on hbx (cell_on hbb x2)
      obtain ⟨-, y1, -⟩ := trip_of (v := (1, 8, ⟨#[]⟩)) (heap_alloc_new wb (bxV (1, 8, ⟨#[]⟩)))
      simp only at y1
      clear hPa hLa hL7 hwa hbb hbx h15
      go_wp2_with fail
      generalize wb.alloc (bxV (1, 8, ⟨#[]⟩)) = W2 at hwb hPb x0 x1 x2 y1
      generalize wb.heap.size = b2 at y1
      refine (echeck_k pa pn pc l 1 W2 hPb (unhide HLT) (unhide HPN) (hide (chk_f (unhide HNO)))).mono ?_
      rintro e wc ⟨rfl, hbc, -⟩
      have hwc := bt hwb hbc
      have hPc := hPb.on hbc
      replace x0 := cell_on hbc x0
      replace x1 := cell_on hbc x1
      replace x2 := cell_on hbc x2
      replace y1 := cell_on hbc y1
      clear hPb hwb hbc
      have hEq := eqV0 (0, 0, ⟨#[]⟩) (0, 0, ⟨#[]⟩)
      rw [decide_eq_true rfl] at hEq
      go_wp2_with fail
      refine (part_any pa pn pc l 0 (-1) wc hPc (unhide HLT) (unhide HPN) (hide (partR_no (unhide HNO)))).mono ?_
      rintro e wd ⟨rfl, hbd⟩
      have hwd := bt hwc hbd
      replace y1 := cell_on hbd y1
      clear hPc hwc hbd x0 x1 x2 hEq
      go_wp2_with fail
      refine (wakes_any wd).mono ?_
      rintro e we ⟨rfl, hbe⟩
      have hwe := bt hwd hbe
      clear hbe hwd y1
      go_wp2_with fail
      go_ret
      exact ⟨rfl, hwe⟩
end Go.Proofs.Ytnomndpoklolfaa.Sb
