/- What the laws' wakes answers: true. -/
import Derived.Test.YtakhcifhfbiopaaGuE
namespace Go.Proofs.Ytakhcifhfbiopaa.Sb
open Go.RowKit
open V
open Ex (RowO LiesO flatO liesO_lit liesO_none)

theorem six_of (w : World) (A B C D E F : Obj) : Below w.heap.size w ((((((w.alloc A).alloc B).alloc C).alloc D).alloc E).alloc F) ∧
    ((((((w.alloc A).alloc B).alloc C).alloc D).alloc E).alloc F).heap[w.heap.size]? = some A ∧ ((((((w.alloc A).alloc B).alloc C).alloc D).alloc E).alloc F).heap[w.heap.size + 1]? = some B ∧ ((((((w.alloc A).alloc B).alloc C).alloc D).alloc E).alloc F).heap[w.heap.size + 1 + 1]? = some C ∧
    ((((((w.alloc A).alloc B).alloc C).alloc D).alloc E).alloc F).heap[w.heap.size + 1 + 1 + 1]? = some D ∧ ((((((w.alloc A).alloc B).alloc C).alloc D).alloc E).alloc F).heap[w.heap.size + 1 + 1 + 1 + 1]? = some E ∧ ((((((w.alloc A).alloc B).alloc C).alloc D).alloc E).alloc F).heap[w.heap.size + 1 + 1 + 1 + 1 + 1]? = some F ∧
    ((((((w.alloc A).alloc B).alloc C).alloc D).alloc E).alloc F).heap.size = w.heap.size + 1 + 1 + 1 + 1 + 1 + 1 := by
  have s1 : (w.alloc A).heap.size = w.heap.size + 1 := by simp
  have s2 : ((w.alloc A).alloc B).heap.size = w.heap.size + 1 + 1 := by simp
  have s3 : (((w.alloc A).alloc B).alloc C).heap.size = w.heap.size + 1 + 1 + 1 := by simp
  have s4 : ((((w.alloc A).alloc B).alloc C).alloc D).heap.size = w.heap.size + 1 + 1 + 1 + 1 := by simp
  have s5 : (((((w.alloc A).alloc B).alloc C).alloc D).alloc E).heap.size = w.heap.size + 1 + 1 + 1 + 1 + 1 := by simp
  have h0 := heap_alloc_new w A
  have h1 := heap_alloc_new (w.alloc A) B
  have h2 := heap_alloc_new ((w.alloc A).alloc B) C
  have h3 := heap_alloc_new (((w.alloc A).alloc B).alloc C) D
  have h4 := heap_alloc_new ((((w.alloc A).alloc B).alloc C).alloc D) E
  have h5 := heap_alloc_new (((((w.alloc A).alloc B).alloc C).alloc D).alloc E) F
  rw [s1] at h1
  rw [s2] at h2
  rw [s3] at h3
  rw [s4] at h4
  rw [s5] at h5
  refine ⟨((((((Below.refl _ _).alloc (Nat.le_refl _) _).alloc (by omega) _).alloc (by omega) _).alloc (by omega) _).alloc (by omega) _).alloc (by omega) _, ?_, ?_, ?_, ?_, ?_, h5, by simp⟩
  · rw [Lib.alloc_old _ _ _ (by omega), Lib.alloc_old _ _ _ (by omega), Lib.alloc_old _ _ _ (by omega), Lib.alloc_old _ _ _ (by omega), Lib.alloc_old _ _ _ (by omega)]; exact h0
  · rw [Lib.alloc_old _ _ _ (by omega), Lib.alloc_old _ _ _ (by omega), Lib.alloc_old _ _ _ (by omega), Lib.alloc_old _ _ _ (by omega)]; exact h1
  · rw [Lib.alloc_old _ _ _ (by omega), Lib.alloc_old _ _ _ (by omega), Lib.alloc_old _ _ _ (by omega)]; exact h2
  · rw [Lib.alloc_old _ _ _ (by omega), Lib.alloc_old _ _ _ (by omega)]; exact h3
  · rw [Lib.alloc_old _ _ _ (by omega)]; exact h4

def vt : Vv := (1, 2, ⟨#[]⟩)
def v3 : Vv := (1, 3, ⟨#[]⟩)
def va : Vv := (2, 0, ⟨#[97]⟩)
def nX : ByteArray := ⟨#[88]⟩
def lA : List Oo := [(1, nX, zeroV)]
def lB : List Oo := [(2, ⟨#[]⟩, v3)]
def bW : List Bb := [(nX, vt)]
abbrev cW (b : Nat) : Cd := ⟨3, ⟨#[]⟩, none, 0, 0, [], 3, some ⟨b + 1 + 1, 0, none⟩, 1, 1, lA, some ⟨b + 1 + 1 + 1, 0, none⟩, 1, 1, lB⟩
abbrev cZ : Cd := ⟨0, ⟨#[]⟩, none, 0, 0, [], 0, none, 0, 0, [], none, 0, 0, []⟩
theorem wk1 (b : Nat) : gevalR bW (cW b).k (cW b).n (cW b).m (cW b).h (cW b).xs (cW b).ys = (true, 0) := show gevalR bW 3 ⟨#[]⟩ 0 3 lA lB = (true, 0) by decide
theorem wk2 : holdR 2 vt v3 = (true, 0) := by decide
theorem wk3 : holdR 4 vt va = (false, 3) := by decide
theorem wk4 (b : Nat) : chk (guardB (cW b).k (cW b).n (cW b).m (cW b).h (cW b).xs (cW b).ys) = 0 := show chk (guardB 3 ⟨#[]⟩ 0 3 lA lB) = 0 by decide
theorem wk5 : chk (guardB cZ.k cZ.n cZ.m cZ.h cZ.xs cZ.ys) = 1 := by decide
theorem ltA : ∀ x ∈ lA, LtO x := by
  intro x hx
  simp only [lA, List.mem_cons, List.not_mem_nil, or_false] at hx
  subst hx
  exact ⟨by decide, by decide⟩
theorem ltB : ∀ x ∈ lB, LtO x := by
  intro x hx
  simp only [lB, List.mem_cons, List.not_mem_nil, or_false] at hx
  subst hx
  exact ⟨by decide, by decide⟩
theorem ltW : ∀ x ∈ bW, Lt x := by
  intro x hx
  simp only [bW, List.mem_cons, List.not_mem_nil, or_false] at hx
  subst hx
  exact ⟨by decide, by decide⟩
theorem lightW (b : Nat) : (cW b).Light := ⟨show (0 : Nat) ≤ 200 by decide, show (0 : Nat) ≤ 20 by decide, show 1 ≤ 40 by decide, show 1 ≤ 40 by decide, (by intro x hx; cases hx), ltA, ltB⟩
theorem lightZ : cZ.Light := ⟨show (0 : Nat) ≤ 200 by decide, show (0 : Nat) ≤ 20 by decide, show 0 ≤ 40 by decide, show 0 ≤ 40 by decide, (by intro x hx; cases hx), (by intro x hx; cases hx), (by intro x hx; cases hx)⟩
theorem inZ (w : World) : cZ.In w := ⟨lies_none w, liesO_none w, liesO_none w⟩
theorem lies_lit {w : World} {b : Nat} {xs : List Bb} {T : TypeId} (h : w.heap[b]? = some (.cells (flatB xs).toArray T)) : Lies w (some ⟨b, 0, none⟩) xs.length xs.length xs := by
  refine ⟨Or.inr ⟨b, 0, rfl, (Array.getElem?_eq_some_iff.1 h).1, fun i v hv => ?_⟩, rfl, (fun h => by cases h), Nat.le_refl _⟩
  obtain ⟨h0, h1, h2, h3⟩ := flatB_get xs i v hv
  rw [Lib.cell_of_heap h, Lib.cell_of_heap h, Lib.cell_of_heap h, Lib.cell_of_heap h]
  simpa using ⟨h0, h1, h2, h3⟩
/-- What wakes has laid: two values, a condition, its rows. -/
structure Wk (W : World) (b : Nat) : Prop where
  t : B2 W b vt v3
  c : BC W (b + 1 + 1 + 1 + 1) (cW b)
  i : (cW b).In W
theorem Wk.on {W w1 : World} {b : Nat} (T : Wk W b) (hb : Below W.heap.size W w1) : Wk w1 b := ⟨T.t.on hb, T.c.on hb, T.i.on hb⟩

set_option maxHeartbeats 8000000 in
set_option maxRecDepth 100000 in
theorem wakes_any (w : World) : Calls Try.prog 17 #[] w fun e w' => e = .returned (.bool true) ∧ Below w.heap.size w w' := by
  obtain ⟨hb0, k0, k1, k2, k3, k4, k5, hsz⟩ := six_of w (.cells #[.int .i64 1, .int .i64 2, .string ⟨#[]⟩] 23) (.cells #[.int .i64 1, .int .i64 3, .string ⟨#[]⟩] 23) (.cells #[.int .i64 1, .string ⟨#[88]⟩, .int .i64 0, .int .i64 0, .string ⟨#[]⟩] 67) (.cells #[.int .i64 2, .string ⟨#[]⟩, .int .i64 1, .int .i64 3, .string ⟨#[]⟩] 67) (.cells #[.int .i64 3, .string ⟨#[]⟩, .slice none 0 0, .int .i64 3, .slice (some ⟨w.heap.size + 1 + 1, 0, none⟩) 1 1, .slice (some ⟨w.heap.size + 1 + 1 + 1, 0, none⟩) 1 1] 29) (.cells #[.string ⟨#[88]⟩, .int .i64 1, .int .i64 2, .string ⟨#[]⟩] 54)
  obtain ⟨p0, p1, p2⟩ := trip_of (v := vt) k0
  obtain ⟨q0, q1, q2⟩ := trip_of (v := v3) k1
  have T : Wk _ w.heap.size := ⟨⟨p0, p1, p2, q0, q1, q2⟩, bc_of (c := cW w.heap.size) k4, ⟨lies_none _, liesO_lit (xs := lA) k2, liesO_lit (xs := lB) k3⟩⟩
  have hB : Lies _ (some ⟨w.heap.size + 1 + 1 + 1 + 1 + 1, 0, none⟩) 1 1 bW := lies_lit (xs := bW) k5
  clear k0 k1 k2 k3 k4 k5 p0 p1 p2 q0 q1 q2
  have F1 := geval_any (cW w.heap.size) (some ⟨w.heap.size + 1 + 1 + 1 + 1 + 1, 0, none⟩) 1 1 bW true 0 _ T.i (lightW _) hB ltW (hide (wk1 _))
  go_enter Try.func17, Try.ntmps17
  go_wp2_with fail
  refine F1.mono ?_
  rintro e w1 ⟨rfl, hb1⟩
  have T1 := T.on hb1
  have hw1 := bt hb0 hb1
  have hs1 : w.heap.size + 1 + 1 + 1 + 1 + 1 < w1.heap.size := by have := hb1.size; omega
  clear T hB F1 hb0 hb1 hsz
  obtain ⟨a0, a1, a2, b0, b1, b2⟩ := T1.t
  simp only [vt, v3] at a0 a1 a2 b0 b1 b2
  have F1 := holds_any 2 vt v3 true 0 w1 (by decide) (by decide) (hide wk2)
  go_wp2_with fail
  refine F1.mono ?_
  rintro e w2 ⟨rfl, hb2⟩
  have T2 := T1.on hb2
  have hw2 := bt hw1 hb2
  clear T1 F1 hb2 hw1 hs1 a0 a1 a2 b0 b1 b2
  obtain ⟨a0, a1, a2, b0, b1, b2⟩ := T2.t
  simp only [vt, v3] at a0 a1 a2 b0 b1 b2
  have F1 := fun W => holds_any 4 vt va false 3 W (by decide) (by decide) (hide wk3)
  go_wp2_with fail
  refine (F1 _).mono ?_
  rintro e w3 ⟨rfl, hb3⟩
  have T3 := T2.on hb3
  have hw3 := bt hw2 hb3
  clear T2 F1 hb3 hw2 a0 a1 a2 b0 b1 b2
  obtain ⟨c0, c1, c2, c3, c4, c5⟩ := T3.c
  simp only at c0 c1 c2 c3 c4 c5
  have F1 := gcheck_any (cW w.heap.size) 0 w3 T3.i (lightW _) (hide (wk4 _))
  go_wp2_with fail
  refine F1.mono ?_
  rintro e w4 ⟨rfl, hb4⟩
  have hw4 := bt hw3 hb4
  clear F1 hb4 hw3 T3 c0 c1 c2 c3 c4 c5
  have F1 := fun W => gcheck_any cZ 1 W (inZ _) lightZ (hide wk5)
  go_wp2_with fail
  refine (F1 _).mono ?_
  rintro e w5 ⟨rfl, hb5⟩
  have hw5 := bt hw4 hb5
  clear F1 hb5 hw4
  go_wp2_with fail
  go_ret
  exact ⟨rfl, hw5⟩
end Go.Proofs.Ytakhcifhfbiopaa.Sb
