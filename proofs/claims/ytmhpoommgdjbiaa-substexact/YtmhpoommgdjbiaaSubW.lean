/- What the laws' wakes answers: true. -/
import Derived.Test.YtmhpoommgdjbiaaSubJ
namespace Go.Proofs.Ytmhpoommgdjbiaa
open Go.RowKit
open V

theorem eqV0 (x y : Vv) (w : World) : (Op.equalIn 10000 24 (.agg #[.int .i64 x.1, .int .i64 x.2.1, .string x.2.2]) (.agg #[.int .i64 y.1, .int .i64 y.2.1, .string y.2.2])).run Try.prog w = .ok (decide (x = y)) w := by
  have u3 := Try.underlying3
  have a3 := Try.isAgg3
  have z3 := Try.sizeOf3
  have u9 := Try.underlying9
  have a9 := Try.isAgg9
  have z9 := Try.sizeOf9
  have hS : Try.prog.underlying 24 = some (.struct (Try.prog.fieldsOf 24)) := by kernel_rfl
  have hp : Try.prog.stoodInHeld 24 = false := by kernel_rfl
  rw [show (10000 : Nat) = 9999 + 1 from rfl, run_equalIn_agg w 9999 24 _ _ hS hp]
  simp only [Program.fieldsOf, Try.underlying24]
  go_simp
  simp only [toList_inj]
  obtain ⟨a, b, c⟩ := x
  obtain ⟨a', b', c'⟩ := y
  by_cases h1 : a = a' <;> by_cases h2 : b = b' <;> by_cases h3 : c = c' <;> simp [h1, h2, h3]

def v1 : Vv := (1, 1, ⟨#[]⟩)
def v2 : Vv := (1, 2, ⟨#[]⟩)
def nX : ByteArray := ⟨#[88]⟩
def nY : ByteArray := ⟨#[89]⟩
theorem wk1 : bothR [] [(nY, v1)] = ([(nY, v1)], true) := by decide
theorem wk2 : bothR [(nY, v1)] [(nX, v2)] = ([(nX, v2), (nY, v1)], true) := by decide
theorem wk3 : bothR [(nX, v2), (nY, v1)] [(nX, v1)] = ([], false) := by decide
theorem wk4 : getR [(nX, v2), (nY, v1)] nX = (v2, true) := by decide
theorem wk5 : varB (⟨#[88]⟩ : ByteArray).data.toList = true := by decide
theorem wk6 : varB (⟨#[120]⟩ : ByteArray).data.toList = false := by decide
theorem wk7 : listB [((⟨#[]⟩ : ByteArray), ((0, 0, ⟨#[]⟩) : Vv))] = false := by decide
theorem lt_all {l : List Bb} (h : l.all (fun x => decide (x.1.size ≤ 200) && decide (x.2.2.2.size ≤ 200)) = true) : ∀ x ∈ l, Lt x := by
  intro x hx
  have := (List.all_eq_true.1 h) x hx
  simpa [Lt] using this

set_option maxHeartbeats 4000000 in
theorem wakes_any (w : World) :
    Calls Try.prog 20 #[] w fun e w' => e = .returned (.bool true) ∧ Below w.heap.size w w' := by
  have hb0 : Below w.heap.size w ((w.alloc (.cells #[.int .i64 1, .int .i64 1, .string ⟨#[]⟩] 24)).alloc (.cells #[.int .i64 1, .int .i64 2, .string ⟨#[]⟩] 24)) := ((Below.refl _ _).alloc (Nat.le_refl _) _).alloc (by simp) _
  have k1 := heap_alloc_new (w.alloc (.cells #[.int .i64 1, .int .i64 1, .string ⟨#[]⟩] 24)) (.cells #[.int .i64 1, .int .i64 2, .string ⟨#[]⟩] 24)
  rw [show (w.alloc (.cells #[.int .i64 1, .int .i64 1, .string ⟨#[]⟩] 24)).heap.size = w.heap.size + 1 by simp] at k1
  have k0 : ((w.alloc (.cells #[.int .i64 1, .int .i64 1, .string ⟨#[]⟩] 24)).alloc (.cells #[.int .i64 1, .int .i64 2, .string ⟨#[]⟩] 24)).heap[w.heap.size]? = some (.cells #[.int .i64 1, .int .i64 1, .string ⟨#[]⟩] 24) :=
    (Lib.alloc_old _ _ _ (by simp)).trans (heap_alloc_new w _)
  obtain ⟨a0, a1, a2⟩ := trip_of (v := v1) k0
  obtain ⟨b0, b1, b2⟩ := trip_of (v := v2) k1
  simp only [v1, v2] at a0 a1 a2 b0 b1 b2
  clear k0 k1
  go_enter Try.func20, Try.ntmps20
  go_wp2_with fail
  generalize (w.alloc (.cells #[.int .i64 1, .int .i64 1, .string ⟨#[]⟩] 24)).alloc (.cells #[.int .i64 1, .int .i64 2, .string ⟨#[]⟩] 24) = W at hb0 a0 a1 a2 b0 b1 b2
  refine (put_any none 0 0 [] _ nY v1 true W (lies_none _) (by omega) (by intro x hx; cases hx) (by decide) (by decide) (hide wk1)).mono ?_
  rintro e w1 ⟨q1, n1, c1, rfl, hl1, hb1⟩
  obtain rfl : n1 = 1 := hl1.len
  have hw1 := bt hb0 hb1
  replace a0 := cell_on hb1 a0
  replace a1 := cell_on hb1 a1
  replace a2 := cell_on hb1 a2
  replace b0 := cell_on hb1 b0
  replace b1 := cell_on hb1 b1
  replace b2 := cell_on hb1 b2
  clear hb0 hb1
  go_wp2_with fail
  refine (put_any q1 1 c1 [(nY, v1)] _ nX v2 true w1 hl1 (by omega) (lt_all (by decide)) (by decide) (by decide) (hide wk2)).mono ?_
  rintro e w2 ⟨q2, n2, c2, rfl, hl2, hb2⟩
  obtain rfl : n2 = 2 := hl2.len
  have hw2 := bt hw1 hb2
  replace a0 := cell_on hb2 a0
  replace a1 := cell_on hb2 a1
  replace a2 := cell_on hb2 a2
  replace b0 := cell_on hb2 b0
  replace b1 := cell_on hb2 b1
  replace b2 := cell_on hb2 b2
  clear hb2 hl1 hw1
  go_wp2_with fail
  refine (put_any q2 2 c2 [(nX, v2), (nY, v1)] _ nX v1 false w2 hl2 (by omega) (lt_all (by decide)) (by decide) (by decide) (hide wk3)).mono ?_
  rintro e w3 ⟨q3, n3, c3, rfl, hl3, hb3⟩
  have hw3 := bt hw2 hb3
  replace b0 := cell_on hb3 b0
  replace b1 := cell_on hb3 b1
  replace b2 := cell_on hb3 b2
  replace hl2 := hl2.on hb3
  clear hb3 hl3 hw2 a0 a1 a2
  go_wp2_with fail
  have hg := get_any q2 2 c2 [(nX, v2), (nY, v1)] nX v2 true w3 hl2.row (Nat.le_refl _) (Nat.le_refl _) (by omega) (lt_all (by decide)) (hide wk4)
  refine hg.mono ?_
  rintro e w4 ⟨rfl, hb4⟩
  have hw4 := bt hw3 hb4
  replace b0 := cell_on hb4 b0
  replace b1 := cell_on hb4 b1
  replace b2 := cell_on hb4 b2
  replace hl2 := hl2.on hb4
  clear hb4 hw3 hg
  have hlt := cell_lt b0
  obtain ⟨b, o, hq, hbl, x0, -⟩ := hl2.row.up (i := 0) (by simp)
  subst hq
  simp only [List.getElem_cons_zero, nX, Nat.zero_mul, Nat.add_zero] at x0
  have hE := eqV0 v2 v2
  simp only [v2, decide_true] at hE
  clear hl2
  simp only [show v2.1 = 1 from rfl, show v2.2.1 = 2 from rfl, show v2.2.2 = (⟨#[]⟩ : ByteArray) from rfl]
  go_wp2_with fail
  have hbx : Below w4.heap.size w4 (w4.alloc (.cells #[.int .i64 1, .int .i64 2, .string ⟨#[]⟩] 24)) := (Below.refl _ _).alloc (Nat.le_refl _) _
  clear b0 b1 b2 x0 hE
  refine (var_q ⟨#[88]⟩ true _ (by decide) (hide wk5)).mono ?_
  rintro e w5 ⟨rfl, hb5⟩
  have hw5 := bt (bt hw4 hbx) hb5
  clear hb5 hbx hw4
  go_wp2_with fail
  refine (var_q ⟨#[120]⟩ false _ (by decide) (hide wk6)).mono ?_
  rintro e w6 ⟨rfl, hb6⟩
  have hw6 := bt hw5 hb6
  clear hb6 hw5
  have hl6 := lies_one w6 ((⟨#[]⟩ : ByteArray), ((0, 0, ⟨#[]⟩) : Vv))
  have hc := scheck_any _ _ 1 _ _ hl6.row hl6.le hl6.ge (lt_all (by decide))
  rw [wk7, show chk false = 1 from rfl] at hc
  clear hl6
  go_wp2_with fail
  refine hc.mono ?_
  rintro e w7 ⟨rfl, hb7⟩
  have hw7 := bt hw6 (below_box hb7)
  clear hc hb7
  go_wp2_with fail
  go_ret
  exact ⟨rfl, hw7⟩
end Go.Proofs.Ytmhpoommgdjbiaa
