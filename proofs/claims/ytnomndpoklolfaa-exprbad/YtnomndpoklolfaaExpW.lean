/- What the laws' wakes answers: true. -/
import Derived.Test.YtnomndpoklolfaaExpI
import Derived.Test.YtnomndpoklolfaaExpN
import Derived.Test.YtnomndpoklolfaaExpK
import Derived.Deep.RegionHeld3
namespace Go.Proofs.Ytnomndpoklolfaa.Sb
open Go.RowKit
open V
open Ex (RowO LiesO flatO liesO_lit liesO_none)

def vt : Vv := (1, 2, ⟨#[]⟩)
def v3 : Vv := (1, 3, ⟨#[]⟩)
def nX : ByteArray := ⟨#[88]⟩
def lW : List Oo := [(1, nX, zeroV), (2, ⟨#[]⟩, vt), (5, ⟨#[]⟩, zeroV)]
def bW : List Bb := [(nX, v3)]
theorem wk1 : evalR bW lW = ((1, 6, ⟨#[]⟩), 0) := by decide
theorem wk2 : evalR [] lW = ((0, 0, ⟨#[]⟩), 5) := by decide
theorem wk3 : (varsO lW).length = 1 := by decide
theorem wk4 : partR lW 2 = 0 := by decide
theorem wk5 : partR lW 1 = 1 := by decide
theorem wk6 : chk (exprB []) = 1 := by decide
theorem ltW : ∀ x ∈ lW, LtO x := by
  intro x hx
  simp only [lW, List.mem_cons, List.not_mem_nil, or_false] at hx
  rcases hx with rfl | rfl | rfl <;> exact ⟨by decide, by decide⟩
theorem ltB : ∀ x ∈ bW, Lt x := by
  intro x hx
  simp only [bW, List.mem_cons, List.not_mem_nil, or_false] at hx
  subst hx
  exact ⟨by decide, by decide⟩
theorem lies_lit {w : World} {b : Nat} {xs : List Bb} {T : TypeId} (h : w.heap[b]? = some (.cells (flatB xs).toArray T)) : Lies w (some ⟨b, 0, none⟩) xs.length xs.length xs := by
  refine ⟨Or.inr ⟨b, 0, rfl, (Array.getElem?_eq_some_iff.1 h).1, fun i v hv => ?_⟩, rfl, (fun h => by cases h), Nat.le_refl _⟩
  obtain ⟨h0, h1, h2, h3⟩ := flatB_get xs i v hv
  rw [Lib.cell_of_heap h, Lib.cell_of_heap h, Lib.cell_of_heap h, Lib.cell_of_heap h]
  simpa using ⟨h0, h1, h2, h3⟩

theorem four_of (w : World) (A B C D : Obj) : Below w.heap.size w ((((w.alloc A).alloc B).alloc C).alloc D) ∧ ((((w.alloc A).alloc B).alloc C).alloc D).heap[w.heap.size]? = some A ∧ ((((w.alloc A).alloc B).alloc C).alloc D).heap[w.heap.size + 1]? = some B ∧ ((((w.alloc A).alloc B).alloc C).alloc D).heap[w.heap.size + 1 + 1]? = some C ∧ ((((w.alloc A).alloc B).alloc C).alloc D).heap[w.heap.size + 1 + 1 + 1]? = some D ∧ ((((w.alloc A).alloc B).alloc C).alloc D).heap.size = w.heap.size + 1 + 1 + 1 + 1 := by
  have s1 : (w.alloc A).heap.size = w.heap.size + 1 := by simp
  have s2 : ((w.alloc A).alloc B).heap.size = w.heap.size + 1 + 1 := by simp
  have s3 : (((w.alloc A).alloc B).alloc C).heap.size = w.heap.size + 1 + 1 + 1 := by simp
  have h0 := heap_alloc_new w A
  have h1 := heap_alloc_new (w.alloc A) B
  have h2 := heap_alloc_new ((w.alloc A).alloc B) C
  have h3 := heap_alloc_new (((w.alloc A).alloc B).alloc C) D
  rw [s1] at h1
  rw [s2] at h2
  rw [s3] at h3
  refine ⟨((((Below.refl _ _).alloc (Nat.le_refl _) _).alloc (by omega) _).alloc (by omega) _).alloc (by omega) _, ?_, ?_, ?_, h3, by simp⟩
  · rw [Lib.alloc_old _ _ _ (by omega), Lib.alloc_old _ _ _ (by omega), Lib.alloc_old _ _ _ (by omega)]; exact h0
  · rw [Lib.alloc_old _ _ _ (by omega), Lib.alloc_old _ _ _ (by omega)]; exact h1
  · rw [Lib.alloc_old _ _ _ (by omega)]; exact h2
theorem ovars_k (a : Option Addr) (len cap : Nat) (ts : List Oo) (m : Nat) (w : World) (hv : ∀ t ∈ ts, LtO t) (hA : LiesO w a len cap ts) (h20 : len ≤ 1000) (H : Hid ((varsO ts).length = m)) :
    Calls Try.prog 15 #[.slice a len cap] w fun e w' => ∃ (q : Option Addr) (c : Nat), e = .returned (.slice q m c) ∧ RowS w' q (varsO ts) ∧ Below w.heap.size w w' ∧ (∀ b o v, w.cell? ⟨b, o, none⟩ = some v → w'.cell? ⟨b, o, none⟩ = some v) := by
  refine (ovars_any a len cap ts w hv hA.row hA.le hA.ge h20).mono ?_
  rintro e w' ⟨q, m', c, rfl, h1, h2, h3⟩
  have : m' = m := h1.trans (unhide H)
  subst this
  exact ⟨q, c, rfl, h2, h3, fun b o v h => cell_on h3 h⟩
theorem part_k (a : Option Addr) (len cap : Nat) (xs : List Oo) (e r : Int) (w : World) (hA : LiesO w a len cap xs) (hL : ∀ x ∈ xs, LtO x) (h1k : len ≤ 1000) (H : Hid (partR xs e = r)) :
    Calls Try.prog 22 #[.slice a len cap, .int .i64 e] w fun q w' => q = .returned (.int .i64 r) ∧ Below w.heap.size w w' ∧ (∀ b o v, w.cell? ⟨b, o, none⟩ = some v → w'.cell? ⟨b, o, none⟩ = some v) := by
  refine (part_any a len cap xs e r w hA hL h1k H).mono ?_
  rintro q w' ⟨rfl, h⟩
  exact ⟨rfl, h, fun b o v g => cell_on h g⟩
theorem echeck_k (a : Option Addr) (len cap : Nat) (xs : List Oo) (r : Int) (w : World) (hA : LiesO w a len cap xs) (hL : ∀ x ∈ xs, LtO x) (h1k : len ≤ 1000) (H : Hid (chk (exprB xs) = r)) :
    Calls Try.prog 20 #[.slice a len cap] w fun q w' => q = .returned (.int .i64 r) ∧ Below w.heap.size w w' ∧ (∀ b o v, w.cell? ⟨b, o, none⟩ = some v → w'.cell? ⟨b, o, none⟩ = some v) := by
  have := echeck_any a len cap xs w hA.row hA.le hA.ge hL h1k
  rw [unhide H] at this
  refine this.mono ?_
  rintro q w' ⟨rfl, h⟩
  exact ⟨rfl, h, fun b o v g => cell_on h g⟩

set_option maxHeartbeats 8000000 in
set_option maxRecDepth 100000 in
theorem wakes_any (w : World) : Calls Try.prog 24 #[] w fun e w' => e = .returned (.bool true) ∧ Below w.heap.size w w' := by
  obtain ⟨hb0, -, -, k2, k3, hsz⟩ := four_of w (.cells #[.int .i64 1, .int .i64 2, .string ⟨#[]⟩] 29) (.cells #[.int .i64 1, .int .i64 3, .string ⟨#[]⟩] 29) (.cells #[.int .i64 1, .string ⟨#[88]⟩, .int .i64 0, .int .i64 0, .string ⟨#[]⟩, .int .i64 2, .string ⟨#[]⟩, .int .i64 1, .int .i64 2, .string ⟨#[]⟩, .int .i64 5, .string ⟨#[]⟩, .int .i64 0, .int .i64 0, .string ⟨#[]⟩] 44) (.cells #[.string ⟨#[88]⟩, .int .i64 1, .int .i64 3, .string ⟨#[]⟩] 57)
  have hl : LiesO _ (some ⟨w.heap.size + 1 + 1, 0, none⟩) 3 3 lW := liesO_lit (xs := lW) k2
  have hbd : Lies _ (some ⟨w.heap.size + 1 + 1 + 1, 0, none⟩) 1 1 bW := lies_lit (xs := bW) k3
  clear k2 k3
  go_enter Try.func24, Try.ntmps24
  go_wp2_with fail
  generalize (((w.alloc (.cells #[.int .i64 1, .int .i64 2, .string ⟨#[]⟩] 29)).alloc (.cells #[.int .i64 1, .int .i64 3, .string ⟨#[]⟩] 29)).alloc (.cells #[.int .i64 1, .string ⟨#[88]⟩, .int .i64 0, .int .i64 0, .string ⟨#[]⟩, .int .i64 2, .string ⟨#[]⟩, .int .i64 1, .int .i64 2, .string ⟨#[]⟩, .int .i64 5, .string ⟨#[]⟩, .int .i64 0, .int .i64 0, .string ⟨#[]⟩] 44)).alloc (.cells #[.string ⟨#[88]⟩, .int .i64 1, .int .i64 3, .string ⟨#[]⟩] 57) = W at hb0 hsz hl hbd
  refine (eval_any (some ⟨w.heap.size + 1 + 1, 0, none⟩) 3 3 lW (some ⟨w.heap.size + 1 + 1 + 1, 0, none⟩) 1 1 bW (1, 6, ⟨#[]⟩) 0 W hl ltW (by decide) hbd ltB (hide wk1)).mono ?_
  rintro e w1 ⟨rfl, hb1⟩
  have hl1 := hl.on hb1
  have hw1 := bt hb0 hb1
  clear hl hbd hb1 hb0 hsz
  have hbx : Below w1.heap.size w1 (w1.alloc (.cells #[.int .i64 1, .int .i64 6, .string ⟨#[]⟩] 29)) := (Below.refl _ _).alloc (Nat.le_refl _) _
  have hl2 := hl1.on hbx
  have hw2 := bt hw1 hbx
  obtain ⟨-, x1, -⟩ := trip_of (v := (1, 6, ⟨#[]⟩)) (heap_alloc_new w1 (.cells #[.int .i64 1, .int .i64 6, .string ⟨#[]⟩] 29))
  simp only at x1
  clear hl1 hw1 hbx
  go_wp2_with fail
  generalize w1.alloc (.cells #[.int .i64 1, .int .i64 6, .string ⟨#[]⟩] 29) = W2 at hl2 hw2 x1
  refine (eval_any (some ⟨w.heap.size + 1 + 1, 0, none⟩) 3 3 lW none 0 0 [] (0, 0, ⟨#[]⟩) 5 W2 hl2 ltW (by decide) (lies_none _) (by intro x hx; cases hx) (hide wk2)).mono ?_
  rintro e w4 ⟨rfl, hb4⟩
  have hl4 := hl2.on hb4
  have hw4 := bt hw2 hb4
  replace x1 := cell_on hb4 x1
  clear hl2 hw2 hb4
  generalize w1.heap.size = vb at x1
  have hlt := cell_lt x1
  have hbz : Below w4.heap.size w4 (w4.alloc (.cells #[.int .i64 0, .int .i64 0, .string ⟨#[]⟩] 29)) := (Below.refl _ _).alloc (Nat.le_refl _) _
  have hl5 := hl4.on hbz
  have hw5 := bt hw4 hbz
  go_wp2_with fail
  clear hlt x1 hl4 hw4 hbz
  generalize w4.alloc (.cells #[.int .i64 0, .int .i64 0, .string ⟨#[]⟩] 29) = W5 at hl5 hw5
  refine (ovars_k (some ⟨w.heap.size + 1 + 1, 0, none⟩) 3 3 lW 1 W5 ltW hl5 (by decide) (hide wk3)).mono ?_
  rintro e w5 ⟨q5, c5, rfl, -, hb5, -⟩
  have hl6 := hl5.on hb5
  have hw6 := bt hw5 hb5
  clear hl5 hw5 hb5
  go_wp2_with fail
  refine (part_k (some ⟨w.heap.size + 1 + 1, 0, none⟩) 3 3 lW 2 0 w5 hl6 ltW (by decide) (hide wk4)).mono ?_
  rintro e w6 ⟨rfl, hb6, -⟩
  have hl7 := hl6.on hb6
  have hw7 := bt hw6 hb6
  clear hl6 hw6 hb6
  go_wp2_with fail
  refine (part_k (some ⟨w.heap.size + 1 + 1, 0, none⟩) 3 3 lW 1 1 w6 hl7 ltW (by decide) (hide wk5)).mono ?_
  rintro e w7 ⟨rfl, hb7, -⟩
  have hw8' := bt hw7 hb7
  clear hl7 hw7 hb7
  go_wp2_with fail
  refine (echeck_k none 0 0 [] 1 w7 (liesO_none _) (by intro x hx; cases hx) (by decide) (hide wk6)).mono ?_
  rintro e w8 ⟨rfl, hb8, -⟩
  have hw8 : Below w.heap.size w w8 := bt hw8' hb8
  clear hb8 hw8'
  go_wp2_with fail
  go_ret
  exact ⟨rfl, hw8⟩
end Go.Proofs.Ytnomndpoklolfaa.Sb
