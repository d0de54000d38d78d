/- What expr.isRight, expr.pushes answer. -/
import Derived.Test.YtakhcifhfbiopaaSubG
import Derived.Test.YtakhcifhfbiopaaExpA
import Derived.Test.YtakhcifhfbiopaaExpQ
import Derived.Test.YtakhcifhfbiopaaExpR
import Derived.Test.YtakhcifhfbiopaaNumD
namespace Go.Proofs.Ytakhcifhfbiopaa.Sb
open Go.RowKit
open V
open Ex (RowO LiesO flatO)

/-- Not too long to be played. -/
def LtO (x : Oo) : Prop := x.2.1.size ≤ 200 ∧ x.2.2.2.2.size ≤ 200

theorem eqV0 (x y : Vv) (w : World) : (Op.equalIn 10000 23 (.agg #[.int .i64 x.1, .int .i64 x.2.1, .string x.2.2]) (.agg #[.int .i64 y.1, .int .i64 y.2.1, .string y.2.2])).run Try.prog w = .ok (decide (x = y)) w := by
  have u3 := Try.underlying3
  have a3 := Try.isAgg3
  have z3 := Try.sizeOf3
  have u9 := Try.underlying9
  have a9 := Try.isAgg9
  have z9 := Try.sizeOf9
  have hS : Try.prog.underlying 23 = some (.struct (Try.prog.fieldsOf 23)) := by kernel_rfl
  have hp : Try.prog.stoodInHeld 23 = false := by kernel_rfl
  rw [show (10000 : Nat) = 9999 + 1 from rfl, run_equalIn_agg w 9999 23 _ _ hS hp]
  simp only [Program.fieldsOf, Try.underlying23]
  go_simp
  simp only [toList_inj]
  obtain ⟨a, b, c⟩ := x
  obtain ⟨a', b', c'⟩ := y
  by_cases h1 : a = a' <;> by_cases h2 : b = b' <;> by_cases h3 : c = c' <;> simp [h1, h2, h3]

abbrev bxO (x : Oo) : Obj := .cells #[.int .i64 x.1, .string x.2.1, .int .i64 x.2.2.1, .int .i64 x.2.2.2.1, .string x.2.2.2.2] 67
theorem quintO {w : World} {b : Nat} {x : Oo} (h : w.heap[b]? = some (bxO x)) : w.cell? ⟨b, 0, none⟩ = some (.int .i64 x.1) ∧ w.cell? ⟨b, 1, none⟩ = some (.string x.2.1) ∧ w.cell? ⟨b, 2, none⟩ = some (.int .i64 x.2.2.1) ∧ w.cell? ⟨b, 3, none⟩ = some (.int .i64 x.2.2.2.1) ∧ w.cell? ⟨b, 4, none⟩ = some (.string x.2.2.2.2) := by
  refine ⟨?_, ?_, ?_, ?_, ?_⟩ <;> (rw [Lib.cell_of_heap h]; rfl)
theorem emp_t {s : ByteArray} (h : s.size = 0) : s.toList.isEmpty = true := by rw [isEmpty_of]; exact decide_eq_true (by omega)
theorem emp_f {s : ByteArray} (h : s.size ≠ 0) : s.toList.isEmpty = false := by rw [isEmpty_of]; exact decide_eq_false (by omega)

set_option maxHeartbeats 1000000 in
theorem right1_q (n : ByteArray) (v : Vv) (q : Bool) (w : World) (hn : n.size ≤ 200) (H : Hid ((varB n.data.toList && decide (v = zeroV)) = q)) :
    Calls Try.prog 48 #[.agg #[.int .i64 1, .string n, .int .i64 v.1, .int .i64 v.2.1, .string v.2.2]] w fun e w' => e = .returned (.bool q) ∧ Below w.heap.size w w' := by
  have hba : Below w.heap.size w (w.alloc (bxO (1, n, v))) := (Below.refl _ _).alloc (Nat.le_refl _) _
  obtain ⟨c0, c1, c2, c3, c4⟩ := quintO (heap_alloc_new w (bxO (1, n, v)))
  cases hv : varB n.data.toList with
  | false =>
    have HQ' : Hid (false = q) := hide (by rw [← unhide H, hv]; rfl)
    go_enter Try.func48, Try.ntmps48
    go_wp2_with fail
    refine (var_q n false _ hn (hide hv)).mono ?_
    rintro e w1 ⟨rfl, hb1⟩
    clear c0 c1 c2 c3 c4 hv
    go_wp2_with fail
    go_ret
    exact ⟨ret_bool' (unhide HQ'), bt hba hb1⟩
  | true =>
    have HQ' : Hid (decide (v = zeroV) = q) := hide (by rw [← unhide H, hv]; rfl)
    have hE := eqV0 v zeroV
    rw [unhide HQ'] at hE
    simp only [zeroV] at hE
    go_enter Try.func48, Try.ntmps48
    go_wp2_with fail
    refine (var_q n true _ hn (hide hv)).mono ?_
    rintro e w1 ⟨rfl, hb1⟩
    have d2 := cell_on hb1 c2
    have d3 := cell_on hb1 c3
    have d4 := cell_on hb1 c4
    clear c0 c1 c2 c3 c4 hv
    go_wp2_with fail
    go_ret
    exact ⟨rfl, bt hba hb1⟩

set_option maxHeartbeats 1000000 in
theorem right2_q (n : ByteArray) (v : Vv) (q : Bool) (w : World) (hv : v.2.2.size ≤ 200) (H : Hid ((decide (n.size = 0) && rightVv v) = q)) :
    Calls Try.prog 48 #[.agg #[.int .i64 2, .string n, .int .i64 v.1, .int .i64 v.2.1, .string v.2.2]] w fun e w' => e = .returned (.bool q) ∧ Below w.heap.size w w' := by
  have hba : Below w.heap.size w (w.alloc (bxO (2, n, v))) := (Below.refl _ _).alloc (Nat.le_refl _) _
  by_cases hz : n.size = 0
  · have e0 := emp_t hz
    have HQ : Hid (rightVv v = q) := hide (by rw [← unhide H, decide_eq_true hz]; rfl)
    clear hz H
    cases hr : rightVv v with
    | false =>
      have HQ' : Hid (false = q) := hide (hr.symm.trans (unhide HQ))
      go_enter Try.func48, Try.ntmps48
      go_wp2_with fail
      refine (vcheck_x v 1 _ hv (hide (chk_f hr))).mono ?_
      rintro e w1 ⟨rfl, hb1⟩
      clear hr e0
      go_wp2_with fail
      go_ret
      exact ⟨ret_bool' (unhide HQ'), bt hba hb1⟩
    | true =>
      have HQ' : Hid (true = q) := hide (hr.symm.trans (unhide HQ))
      go_enter Try.func48, Try.ntmps48
      go_wp2_with fail
      refine (vcheck_x v 0 _ hv (hide (chk_t hr))).mono ?_
      rintro e w1 ⟨rfl, hb1⟩
      clear hr e0
      go_wp2_with fail
      go_ret
      exact ⟨ret_bool' (unhide HQ'), bt hba hb1⟩
  · have e0 := emp_f hz
    have HQ' : Hid (false = q) := hide (by rw [← unhide H, decide_eq_false hz]; rfl)
    clear hz H
    go_enter Try.func48, Try.ntmps48
    go_wp2_with fail
    go_ret
    exact ⟨ret_bool' (unhide HQ'), hba⟩

set_option maxHeartbeats 1000000 in
theorem right3_q (k : Int) (n : ByteArray) (v : Vv) (q : Bool) (w : World) (hk : k = 3 ∨ k = 4 ∨ k = 5) (H : Hid ((decide (n.size = 0) && decide (v = zeroV)) = q)) :
    Calls Try.prog 48 #[.agg #[.int .i64 k, .string n, .int .i64 v.1, .int .i64 v.2.1, .string v.2.2]] w fun e w' => e = .returned (.bool q) ∧ Below w.heap.size w w' := by
  have hba : Below w.heap.size w (w.alloc (bxO (k, n, v))) := (Below.refl _ _).alloc (Nat.le_refl _) _
  by_cases hz : n.size = 0
  · have e0 := emp_t hz
    have HQ : Hid (decide (v = zeroV) = q) := hide (by rw [← unhide H, decide_eq_true hz]; rfl)
    have hE := eqV0 v zeroV
    rw [unhide HQ] at hE
    simp only [zeroV] at hE
    clear hz H
    rcases hk with rfl | rfl | rfl
    all_goals
      go_enter Try.func48, Try.ntmps48
      go_wp2_with fail
      go_ret
      exact ⟨rfl, hba⟩
  · have e0 := emp_f hz
    have HQ' : Hid (false = q) := hide (by rw [← unhide H, decide_eq_false hz]; rfl)
    clear hz H
    rcases hk with rfl | rfl | rfl
    all_goals
      go_enter Try.func48, Try.ntmps48
      go_wp2_with fail
      go_ret
      exact ⟨ret_bool' (unhide HQ'), hba⟩

set_option maxHeartbeats 1000000 in
theorem right0_q (k : Int) (n : ByteArray) (v : Vv) (w : World) (h1 : (k == 1) = false) (h2 : (k == 2) = false) (h3 : (k == 3) = false) (h4 : (k == 4) = false) (h5 : (k == 5) = false) :
    Calls Try.prog 48 #[.agg #[.int .i64 k, .string n, .int .i64 v.1, .int .i64 v.2.1, .string v.2.2]] w fun e w' => e = .returned (.bool false) ∧ Below w.heap.size w w' := by
  have hba : Below w.heap.size w (w.alloc (bxO (k, n, v))) := (Below.refl _ _).alloc (Nat.le_refl _) _
  go_enter Try.func48, Try.ntmps48
  go_wp2_with fail
  go_ret
  exact ⟨rfl, hba⟩

theorem isRightO_q (x : Oo) (q : Bool) (w : World) (hx : LtO x) (H : Hid (rightO x = q)) :
    Calls Try.prog 48 #[.agg #[.int .i64 x.1, .string x.2.1, .int .i64 x.2.2.1, .int .i64 x.2.2.2.1, .string x.2.2.2.2]] w fun e w' => e = .returned (.bool q) ∧ Below w.heap.size w w' := by
  obtain ⟨k, n, v⟩ := x
  have h := unhide H
  unfold rightO at h
  by_cases h1 : k = 1
  · subst h1
    exact right1_q n v q w hx.1 (hide h)
  · by_cases h2 : k = 2
    · subst h2
      exact right2_q n v q w hx.2 (hide h)
    · rw [if_neg h1, if_neg h2] at h
      by_cases h3 : k = 3 ∨ k = 4 ∨ k = 5
      · rw [show opO (k, n, v) = true from decide_eq_true h3, Bool.true_and] at h
        exact right3_q k n v q w h3 (hide h)
      · rw [show opO (k, n, v) = false from decide_eq_false h3, Bool.false_and] at h
        subst h
        refine right0_q k n v w ?_ ?_ ?_ ?_ ?_ <;> (rw [beq_eq_false_iff_ne]; omega)

set_option maxHeartbeats 1000000 in
theorem pushes_q (x : Oo) (q : Bool) (w : World) (H : Hid (pushO x = q)) :
    Calls Try.prog 49 #[.agg #[.int .i64 x.1, .string x.2.1, .int .i64 x.2.2.1, .int .i64 x.2.2.2.1, .string x.2.2.2.2]] w fun e w' => e = .returned (.bool q) ∧ Below w.heap.size w w' := by
  have hba : Below w.heap.size w (w.alloc (bxO x)) := (Below.refl _ _).alloc (Nat.le_refl _) _
  obtain ⟨k, n, v⟩ := x
  have h := unhide H
  unfold pushO at h
  clear H
  by_cases h1 : k = 1
  · subst h1
    have HQ : Hid (true = q) := hide (by rw [← h]; rfl)
    clear h
    go_enter Try.func49, Try.ntmps49
    go_wp2_with fail
    go_ret
    exact ⟨ret_bool' (unhide HQ), hba⟩
  · by_cases h2 : k = 2
    · subst h2
      have HQ : Hid (true = q) := hide (by rw [← h]; rfl)
      clear h h1
      go_enter Try.func49, Try.ntmps49
      go_wp2_with fail
      go_ret
      exact ⟨ret_bool' (unhide HQ), hba⟩
    · have HQ : Hid (false = q) := hide (by rw [← h]; simp [h1, h2])
      have e1 : (k == 1) = false := by rw [beq_eq_false_iff_ne]; exact h1
      have e2 : (k == 2) = false := by rw [beq_eq_false_iff_ne]; exact h2
      clear h h1 h2
      go_enter Try.func49, Try.ntmps49
      go_wp2_with fail
      go_ret
      exact ⟨ret_bool' (unhide HQ), hba⟩
end Go.Proofs.Ytakhcifhfbiopaa.Sb
