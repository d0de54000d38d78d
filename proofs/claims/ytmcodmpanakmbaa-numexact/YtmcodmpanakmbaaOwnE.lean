/- The law's own 'wakes' returns true. -/
import Derived.Test.YtmcodmpanakmbaaOwnD
namespace Go.Proofs.Ytmcodmpanakmbaa
open Go.RowKit
open N

theorem bt {w w1 w2 : World} (h1 : Below w.heap.size w w1) (h2 : Below w1.heap.size w1 w2) : Below w.heap.size w w2 := h1.trans (h2.mono h1.size)

theorem three_cells (w : World) (a b c : Int) (j : Nat) (h : j < 3) :
    (w.alloc (.cells #[.int .i64 a, .int .i64 b, .int .i64 c] 3)).cell? ⟨w.heap.size, 0 + j, none⟩ = some (.int .i64 ([a, b, c].getD j 0)) := by
  match j, h with
  | 0, _ => simp [go_sem]
  | 1, _ => simp [go_sem]
  | 2, _ => simp [go_sem]

theorem sum_three (a b c v e : Int) (w : World) (h : Hid (sumL 0 [a, b, c] = (v, e))) :
    Calls Try.prog 9 #[.slice (some ⟨w.heap.size, 0, none⟩) 3 3] (w.alloc (.cells #[.int .i64 a, .int .i64 b, .int .i64 c] 3)) fun r w' => r = .returned (.tuple #[.int .i64 v, .int .i64 e]) ∧ w' = w.alloc (.cells #[.int .i64 a, .int .i64 b, .int .i64 c] 3) :=
  sum_any w.heap.size 0 3 3 [a, b, c] v e _ (by simp) (by simp) (by omega) (fun j hj => three_cells w a b c j hj) h

set_option maxHeartbeats 800000 in
theorem wakes_any (w : World) : Calls Try.prog 10 #[] w fun r w' => r = .returned (.bool true) ∧ Below w.heap.size w w' := by
  have H1 : Hid (doL 3 2 3 = (5, 0)) := hide (by decide)
  have H2 : Hid (doL 4 2 3 = (-1, 0)) := hide (by decide)
  have H3 : Hid (doL 5 2 (-3) = (-6, 0)) := hide (by decide)
  have H4 : Hid (doL 3 4611686018427387904 1 = (0, 4)) := hide (by decide)
  have H5 : Hid (sumL 0 [1, 2, 3] = (6, 0)) := hide (by decide)
  go_enter Try.func10, Try.ntmps10
  go_wp2_with fail
  refine (do_any 3 2 3 5 0 _ H1).mono ?_; rintro r w' ⟨rfl, rfl⟩
  go_wp2_with fail
  refine (do_any 4 2 3 (-1) 0 _ H2).mono ?_; rintro r w' ⟨rfl, rfl⟩
  go_wp2_with fail
  refine (do_any 5 2 (-3) (-6) 0 _ H3).mono ?_; rintro r w' ⟨rfl, rfl⟩
  go_wp2_with fail
  refine (do_any 3 4611686018427387904 1 0 4 _ H4).mono ?_; rintro r w' ⟨rfl, rfl⟩
  go_wp2_with fail
  refine (sum_three 1 2 3 6 0 _ H5).mono ?_; rintro r w' ⟨rfl, rfl⟩
  go_wp2
  go_ret
  exact ⟨rfl, (Below.refl _ _).alloc (Nat.le_refl _) _⟩
end Go.Proofs.Ytmcodmpanakmbaa
