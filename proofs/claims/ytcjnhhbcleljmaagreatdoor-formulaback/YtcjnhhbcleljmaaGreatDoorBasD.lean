/- Joined: NumB NumC NumD ExpB MatA. -/
import Derived.Test.YtcjnhhbcleljmaaGreatDoorRows
import Derived.Test.YtcjnhhbcleljmaaGreatDoorBasC
import Derived.WalkKit
import Derived.WalkSpells
import Derived.WalkLawsBesides
import Derived.Test.YtcjnhhbcleljmaaGreatDoorBasB
namespace Go.Proofs.YtcjnhhbcleljmaaGreatDoor.N
open Go.RowKit

theorem ret_bool {a b : Bool} (h : b = a) : Ending.returned (.bool a) = .returned (.bool b) := by rw [h]
theorem ret_int {k : IntKind} {a b : Int} (h : a = b) : Ending.returned (.int k a) = .returned (.int k b) := by rw [h]
theorem ret_two {a b v e : Int} (h : (a, b) = (v, e)) : Ending.returned (.tuple #[.int .i64 a, .int .i64 b]) = .returned (.tuple #[.int .i64 v, .int .i64 e]) := by
  cases h; rfl

end Go.Proofs.YtcjnhhbcleljmaaGreatDoor.N
namespace Go.Proofs.YtcjnhhbcleljmaaGreatDoor.N
open Go.RowKit

/- The document's own. -/
set_option maxHeartbeats 400000 in
theorem refIn_any (n : Int) (w : World) : Calls Tryz.prog 118 #[.int .i64 n, .int .i64 (-4611686018427387904), .int .i64 4611686018427387904] w fun e w' => e = .returned (.bool (inB n)) ∧ w' = w := by
  by_cases ha : -4611686018427387904 ≤ n
  · by_cases hb : n ≤ 4611686018427387904
    · rw [inB_t ha hb]
      go_enter Tryz.func118, Tryz.ntmps118
      go_wp2
      go_ret
      exact ⟨rfl, rfl⟩
    · rw [inB_f (by omega)]
      go_enter Tryz.func118, Tryz.ntmps118
      go_wp2
      go_ret
      exact ⟨rfl, rfl⟩
  · rw [inB_f (by omega)]
    go_enter Tryz.func118, Tryz.ntmps118
    go_wp2
    go_ret
    exact ⟨rfl, rfl⟩

theorem add_cases {a b : Int} {v e : Int} (a0 : -4611686018427387904 ≤ a) (a1 : a ≤ 4611686018427387904) (hr : res (a + b) = (v, e)) :
    (0 < b ∧ 4611686018427387904 - b < a ∧ (0, 4) = (v, e)) ∨ (0 < b ∧ a ≤ 4611686018427387904 - b ∧ (a + b, 0) = (v, e)) ∨ (b < 0 ∧ a < -4611686018427387904 - b ∧ (0, 4) = (v, e)) ∨ (b < 0 ∧ -4611686018427387904 - b ≤ a ∧ (a + b, 0) = (v, e)) ∨ (b = 0 ∧ (a, 0) = (v, e)) := by
  by_cases hi : -4611686018427387904 ≤ a + b ∧ a + b ≤ 4611686018427387904
  · rw [res_t hi.1 hi.2] at hr
    by_cases hz : b = 0
    · subst hz
      rw [Int.add_zero] at hr
      exact Or.inr (Or.inr (Or.inr (Or.inr ⟨rfl, hr⟩)))
    · simp only [hr, and_true]
      omega
  · rw [res_f hi] at hr
    simp only [hr, and_true]
    omega

theorem neg_quo {b : Int} (h : b < 0) : wrap64 (-Int.tdiv 4611686018427387904 b) = 4611686018427387904 / -b := by
  have e : -Int.tdiv 4611686018427387904 b = 4611686018427387904 / -b := by
    rw [← Int.tdiv_neg, Int.tdiv_eq_ediv_of_nonneg (by decide)]
  rw [e]
  have h0 : 0 ≤ 4611686018427387904 / -b := Int.ediv_nonneg (by decide) (by omega)
  have h1 : 4611686018427387904 / -b ≤ 4611686018427387904 := Int.ediv_le_self _ (by decide)
  exact IntWalk.wrap64_in _ ⟨by omega, by omega⟩

end Go.Proofs.YtcjnhhbcleljmaaGreatDoor.N
namespace Go.Proofs.YtcjnhhbcleljmaaGreatDoor.N
open Go.RowKit

theorem sum_go {s n : Int} {r : List Int} {x y v e : Int} (h : doL 3 s n = (x, y)) (hs : sumL s (n :: r) = (v, e)) : (y = 0 ∧ sumL x r = (v, e)) ∨ (y ≠ 0 ∧ (0, y) = (v, e)) := by
  unfold sumL at hs
  rw [h] at hs
  by_cases hy : y = 0
  · exact Or.inl ⟨hy, by simpa [hy] using hs⟩
  · exact Or.inr ⟨hy, by simpa [hy] using hs⟩
theorem drop_get {zs : List Int} {k : Nat} (h : k < zs.length) : zs.drop k = zs.getD k 0 :: zs.drop (k + 1) := by
  rw [List.drop_eq_getElem_cons h]; simp [List.getD, List.getElem?_eq_getElem h]

end Go.Proofs.YtcjnhhbcleljmaaGreatDoor.N
namespace Go.Proofs.YtcjnhhbcleljmaaGreatDoor.Sb
open Go.RowKit
open V
open Ex (RowO LiesO flatO)

/-- Not too long to be played. -/
def LtO (x : Oo) : Prop := x.2.1.size ≤ 200 ∧ x.2.2.2.2.size ≤ 200

theorem eqV0 (x y : Vv) (w : World) : (Op.equalIn 10000 139 (.agg #[.int .i64 x.1, .int .i64 x.2.1, .string x.2.2]) (.agg #[.int .i64 y.1, .int .i64 y.2.1, .string y.2.2])).run Tryz.prog w = .ok (decide (x = y)) w := by
  have u3 := Tryz.underlying3
  have a3 := Tryz.isAgg3
  have z3 := Tryz.sizeOf3
  have u9 := Tryz.underlying9
  have a9 := Tryz.isAgg9
  have z9 := Tryz.sizeOf9
  have hS : Tryz.prog.underlying 139 = some (.struct (Tryz.prog.fieldsOf 139)) := by kernel_rfl
  have hp : Tryz.prog.stoodInHeld 139 = false := by kernel_rfl
  rw [show (10000 : Nat) = 9999 + 1 from rfl, run_equalIn_agg w 9999 139 _ _ hS hp]
  simp only [Program.fieldsOf, Tryz.underlying139]
  go_simp
  simp only [toList_inj]
  obtain ⟨a, b, c⟩ := x
  obtain ⟨a', b', c'⟩ := y
  by_cases h1 : a = a' <;> by_cases h2 : b = b' <;> by_cases h3 : c = c' <;> simp [h1, h2, h3]

abbrev bxO (x : Oo) : Obj := .cells #[.int .i64 x.1, .string x.2.1, .int .i64 x.2.2.1, .int .i64 x.2.2.2.1, .string x.2.2.2.2] 144
theorem quintO {w : World} {b : Nat} {x : Oo} (h : w.heap[b]? = some (bxO x)) : w.cell? ⟨b, 0, none⟩ = some (.int .i64 x.1) ∧ w.cell? ⟨b, 1, none⟩ = some (.string x.2.1) ∧ w.cell? ⟨b, 2, none⟩ = some (.int .i64 x.2.2.1) ∧ w.cell? ⟨b, 3, none⟩ = some (.int .i64 x.2.2.2.1) ∧ w.cell? ⟨b, 4, none⟩ = some (.string x.2.2.2.2) := by
  refine ⟨?_, ?_, ?_, ?_, ?_⟩ <;> (rw [Lib.cell_of_heap h]; rfl)
theorem emp_t {s : ByteArray} (h : s.size = 0) : s.toList.isEmpty = true := by rw [isEmpty_of]; exact decide_eq_true (by omega)
theorem emp_f {s : ByteArray} (h : s.size ≠ 0) : s.toList.isEmpty = false := by rw [isEmpty_of]; exact decide_eq_false (by omega)

set_option maxHeartbeats 1000000 in
theorem right1_q (n : ByteArray) (v : Vv) (q : Bool) (w : World) (hn : n.size ≤ 200) (H : Hid ((varB n.data.toList && decide (v = zeroV)) = q)) :
    Calls Tryz.prog 197 #[.agg #[.int .i64 1, .string n, .int .i64 v.1, .int .i64 v.2.1, .string v.2.2]] w fun e w' => e = .returned (.bool q) ∧ Below w.heap.size w w' := by
  have hba : Below w.heap.size w (w.alloc (bxO (1, n, v))) := (Below.refl _ _).alloc (Nat.le_refl _) _
  obtain ⟨c0, c1, c2, c3, c4⟩ := quintO (heap_alloc_new w (bxO (1, n, v)))
  cases hv : varB n.data.toList with
  | false =>
    have HQ' : Hid (false = q) := hide (by rw [← unhide H, hv]; rfl)
    go_enter Tryz.func197, Tryz.ntmps197
    go_wp2_with fail
    refine (var_q n false _ hn (hide hv)).mono ?_
    rintro e w1 ⟨rfl, hb1⟩
    clear c0 c1 c2 c3 c4 hv
    go_wp2_with fail
    go_ret
    exact ⟨ret_bool' (unhide HQ'), bt hba hb1⟩
  | true =>
    have HQ' : Hid (decide (v = zeroV) = q) := hide (by rw [← unhide H, hv]; rfl)
    have hE := eqV0 v zeroV
    rw [unhide HQ'] at hE
    simp only [zeroV] at hE
    go_enter Tryz.func197, Tryz.ntmps197
    go_wp2_with fail
    refine (var_q n true _ hn (hide hv)).mono ?_
    rintro e w1 ⟨rfl, hb1⟩
    have d2 := cell_on hb1 c2
    have d3 := cell_on hb1 c3
    have d4 := cell_on hb1 c4
    clear c0 c1 c2 c3 c4 hv
    go_wp2_with fail
    go_ret
    exact ⟨rfl, bt hba hb1⟩

set_option maxHeartbeats 1000000 in
theorem right2_q (n : ByteArray) (v : Vv) (q : Bool) (w : World) (hv : v.2.2.size ≤ 200) (H : Hid ((decide (n.size = 0) && rightVv v) = q)) :
    Calls Tryz.prog 197 #[.agg #[.int .i64 2, .string n, .int .i64 v.1, .int .i64 v.2.1, .string v.2.2]] w fun e w' => e = .returned (.bool q) ∧ Below w.heap.size w w' := by
  have hba : Below w.heap.size w (w.alloc (bxO (2, n, v))) := (Below.refl _ _).alloc (Nat.le_refl _) _
  by_cases hz : n.size = 0
  · have e0 := emp_t hz
    have HQ : Hid (rightVv v = q) := hide (by rw [← unhide H, decide_eq_true hz]; rfl)
    clear hz H
    cases hr : rightVv v with
    | false =>
      have HQ' : Hid (false = q) := hide (hr.symm.trans (unhide HQ))
      go_enter Tryz.func197, Tryz.ntmps197
      go_wp2_with fail
      refine (vcheck_x v 1 _ hv (hide (chk_f hr))).mono ?_
      rintro e w1 ⟨rfl, hb1⟩
      clear hr e0
      go_wp2_with fail
      go_ret
      exact ⟨ret_bool' (unhide HQ'), bt hba hb1⟩
    | true =>
      have HQ' : Hid (true = q) := hide (hr.symm.trans (unhide HQ))
      go_enter Tryz.func197, Tryz.ntmps197
      go_wp2_with fail
      refine (vcheck_x v 0 _ hv (hide (chk_t hr))).mono ?_
      rintro e w1 ⟨rfl, hb1⟩
      clear hr e0
      go_wp2_with fail
      go_ret
      exact ⟨ret_bool' (unhide HQ'), bt hba hb1⟩
  · have e0 := emp_f hz
    have HQ' : Hid (false = q) := hide (by rw [← unhide H, decide_eq_false hz]; rfl)
    clear hz H
    go_enter Tryz.func197, Tryz.ntmps197
    go_wp2_with fail
    go_ret
    exact ⟨ret_bool' (unhide HQ'), hba⟩

set_option maxHeartbeats 1000000 in
theorem right3_q (k : Int) (n : ByteArray) (v : Vv) (q : Bool) (w : World) (hk : k = 3 ∨ k = 4 ∨ k = 5) (H : Hid ((decide (n.size = 0) && decide (v = zeroV)) = q)) :
    Calls Tryz.prog 197 #[.agg #[.int .i64 k, .string n, .int .i64 v.1, .int .i64 v.2.1, .string v.2.2]] w fun e w' => e = .returned (.bool q) ∧ Below w.heap.size w w' := by
  have hba : Below w.heap.size w (w.alloc (bxO (k, n, v))) := (Below.refl _ _).alloc (Nat.le_refl _) _
  by_cases hz : n.size = 0
  · have e0 := emp_t hz
    have HQ : Hid (decide (v = zeroV) = q) := hide (by rw [← unhide H, decide_eq_true hz]; rfl)
    have hE := eqV0 v zeroV
    rw [unhide HQ] at hE
    simp only [zeroV] at hE
    clear hz H
    rcases hk with rfl | rfl | rfl
    all_goals
      go_enter Tryz.func197, Tryz.ntmps197
      go_wp2_with fail
      go_ret
      exact ⟨rfl, hba⟩
  · have e0 := emp_f hz
    have HQ' : Hid (false = q) := hide (by rw [← unhide H, decide_eq_false hz]; rfl)
    clear hz H
    rcases hk with rfl | rfl | rfl
    all_goals
      go_enter Tryz.func197, Tryz.ntmps197
      go_wp2_with fail
      go_ret
      exact ⟨ret_bool' (unhide HQ'), hba⟩

set_option maxHeartbeats 1000000 in
theorem right0_q (k : Int) (n : ByteArray) (v : Vv) (w : World) (h1 : (k == 1) = false) (h2 : (k == 2) = false) (h3 : (k == 3) = false) (h4 : (k == 4) = false) (h5 : (k == 5) = false) :
    Calls Tryz.prog 197 #[.agg #[.int .i64 k, .string n, .int .i64 v.1, .int .i64 v.2.1, .string v.2.2]] w fun e w' => e = .returned (.bool false) ∧ Below w.heap.size w w' := by
  have hba : Below w.heap.size w (w.alloc (bxO (k, n, v))) := (Below.refl _ _).alloc (Nat.le_refl _) _
  go_enter Tryz.func197, Tryz.ntmps197
  go_wp2_with fail
  go_ret
  exact ⟨rfl, hba⟩

theorem isRightO_q (x : Oo) (q : Bool) (w : World) (hx : LtO x) (H : Hid (rightO x = q)) :
    Calls Tryz.prog 197 #[.agg #[.int .i64 x.1, .string x.2.1, .int .i64 x.2.2.1, .int .i64 x.2.2.2.1, .string x.2.2.2.2]] w fun e w' => e = .returned (.bool q) ∧ Below w.heap.size w w' := by
  obtain ⟨k, n, v⟩ := x
  have h := unhide H
  unfold rightO at h
  by_cases h1 : k = 1
  · subst h1
    exact right1_q n v q w hx.1 (hide h)
  · by_cases h2 : k = 2
    · subst h2
      exact right2_q n v q w hx.2 (hide h)
    · rw [if_neg h1, if_neg h2] at h
      by_cases h3 : k = 3 ∨ k = 4 ∨ k = 5
      · rw [show opO (k, n, v) = true from decide_eq_true h3, Bool.true_and] at h
        exact right3_q k n v q w h3 (hide h)
      · rw [show opO (k, n, v) = false from decide_eq_false h3, Bool.false_and] at h
        subst h
        refine right0_q k n v w ?_ ?_ ?_ ?_ ?_ <;> (rw [beq_eq_false_iff_ne]; omega)

set_option maxHeartbeats 1000000 in
theorem pushes_q (x : Oo) (q : Bool) (w : World) (H : Hid (pushO x = q)) :
    Calls Tryz.prog 198 #[.agg #[.int .i64 x.1, .string x.2.1, .int .i64 x.2.2.1, .int .i64 x.2.2.2.1, .string x.2.2.2.2]] w fun e w' => e = .returned (.bool q) ∧ Below w.heap.size w w' := by
  have hba : Below w.heap.size w (w.alloc (bxO x)) := (Below.refl _ _).alloc (Nat.le_refl _) _
  obtain ⟨k, n, v⟩ := x
  have h := unhide H
  unfold pushO at h
  clear H
  by_cases h1 : k = 1
  · subst h1
    have HQ : Hid (true = q) := hide (by rw [← h]; rfl)
    clear h
    go_enter Tryz.func198, Tryz.ntmps198
    go_wp2_with fail
    go_ret
    exact ⟨ret_bool' (unhide HQ), hba⟩
  · by_cases h2 : k = 2
    · subst h2
      have HQ : Hid (true = q) := hide (by rw [← h]; rfl)
      clear h h1
      go_enter Tryz.func198, Tryz.ntmps198
      go_wp2_with fail
      go_ret
      exact ⟨ret_bool' (unhide HQ), hba⟩
    · have HQ : Hid (false = q) := hide (by rw [← h]; simp [h1, h2])
      have e1 : (k == 1) = false := by rw [beq_eq_false_iff_ne]; exact h1
      have e2 : (k == 2) = false := by rw [beq_eq_false_iff_ne]; exact h2
      clear h h1 h2
      go_enter Tryz.func198, Tryz.ntmps198
      go_wp2_with fail
      go_ret
      exact ⟨ret_bool' (unhide HQ), hba⟩
end Go.Proofs.YtcjnhhbcleljmaaGreatDoor.Sb
namespace Go.Proofs.YtcjnhhbcleljmaaGreatDoor.Sb
open Go.RowKit
open V

abbrev bxT (x : Bb) : Obj := .cells #[.string x.1, .int .i64 x.2.1, .int .i64 x.2.2.1, .string x.2.2.2] 141
theorem quadT {w : World} {b : Nat} {x : Bb} (h : w.heap[b]? = some (bxT x)) : w.cell? ⟨b, 0, none⟩ = some (.string x.1) ∧ w.cell? ⟨b, 1, none⟩ = some (.int .i64 x.2.1) ∧ w.cell? ⟨b, 2, none⟩ = some (.int .i64 x.2.2.1) ∧ w.cell? ⟨b, 3, none⟩ = some (.string x.2.2.2) := by
  refine ⟨?_, ?_, ?_, ?_⟩ <;> (rw [Lib.cell_of_heap h]; rfl)
set_option maxHeartbeats 1000000 in
theorem isRightT_q (t : Bb) (q : Bool) (w : World) (ht : Lt t) (H : Hid (rightT t = q)) :
    Calls Tryz.prog 171 #[.agg #[.string t.1, .int .i64 t.2.1, .int .i64 t.2.2.1, .string t.2.2.2]] w fun e w' => e = .returned (.bool q) ∧ Below w.heap.size w w' := by
  have hba : Below w.heap.size w (w.alloc (bxT t)) := (Below.refl _ _).alloc (Nat.le_refl _) _
  obtain ⟨c0, c1, c2, c3⟩ := quadT (heap_alloc_new w (bxT t))
  by_cases hz : t.1.size = 0
  · have e0 := emp_t hz
    have HQ : Hid (rightVv t.2 = q) := hide (by rw [← unhide H, rightT, if_pos hz])
    clear hz H
    cases hr : rightVv t.2 with
    | false =>
      have HQ' : Hid (false = q) := hide (hr.symm.trans (unhide HQ))
      go_enter Tryz.func171, Tryz.ntmps171
      go_wp2_with fail
      refine (vcheck_x t.2 1 _ ht.2 (hide (chk_f hr))).mono ?_
      rintro e w1 ⟨rfl, hb1⟩
      clear c0 c1 c2 c3 hr e0
      go_wp2_with fail
      go_ret
      exact ⟨ret_bool' (unhide HQ'), bt hba hb1⟩
    | true =>
      have HQ' : Hid (true = q) := hide (hr.symm.trans (unhide HQ))
      go_enter Tryz.func171, Tryz.ntmps171
      go_wp2_with fail
      refine (vcheck_x t.2 0 _ ht.2 (hide (chk_t hr))).mono ?_
      rintro e w1 ⟨rfl, hb1⟩
      clear c0 c1 c2 c3 hr e0
      go_wp2_with fail
      go_ret
      exact ⟨ret_bool' (unhide HQ'), bt hba hb1⟩
  · have e0 := emp_f hz
    have HQ : Hid ((varB t.1.data.toList && decide (t.2 = zeroV)) = q) := hide (by rw [← unhide H, rightT, if_neg hz])
    clear hz H
    cases hv : varB t.1.data.toList with
    | false =>
      have HQ' : Hid (false = q) := hide (by rw [← unhide HQ, hv]; rfl)
      go_enter Tryz.func171, Tryz.ntmps171
      go_wp2_with fail
      refine (var_q t.1 false _ ht.1 (hide hv)).mono ?_
      rintro e w1 ⟨rfl, hb1⟩
      clear c0 c1 c2 c3 hv e0
      go_wp2_with fail
      go_ret
      exact ⟨ret_bool' (unhide HQ'), bt hba hb1⟩
    | true =>
      have HQ' : Hid (decide (t.2 = zeroV) = q) := hide (by rw [← unhide HQ, hv]; rfl)
      have hE := eqV0 t.2 zeroV
      rw [unhide HQ'] at hE
      simp only [zeroV] at hE
      go_enter Tryz.func171, Tryz.ntmps171
      go_wp2_with fail
      refine (var_q t.1 true _ ht.1 (hide hv)).mono ?_
      rintro e w1 ⟨rfl, hb1⟩
      have d1 := cell_on hb1 c1
      have d2 := cell_on hb1 c2
      have d3 := cell_on hb1 c3
      clear c0 c1 c2 c3 hv e0
      go_wp2_with fail
      go_ret
      exact ⟨rfl, bt hba hb1⟩

/-- A right atom. -/
def rightA (n : ByteArray) (ts : List Bb) : Bool := nameB n.data.toList && (decide (ts.length ≤ 5) && ts.all rightT)
theorem allT_get {ts : List Bb} {k : Nat} (hk : k < ts.length) (h : rightT ts[k] = false) : ts.all rightT = false := by
  rw [List.all_eq_false]
  exact ⟨ts[k], List.getElem_mem hk, by simp [h]⟩
theorem allT_take {ts : List Bb} {k : Nat} (hk : k < ts.length) (h : rightT ts[k] = true) (hp : (ts.take k).all rightT = true) : (ts.take (k + 1)).all rightT = true := by
  rw [List.take_succ_eq_append_getElem hk, List.all_append, hp]
  simp [h]

set_option maxHeartbeats 1000000 in
theorem acheck_any (n : ByteArray) (a : Option Addr) (len cap : Nat) (ts : List Bb) (w : World) (hn : n.size ≤ 200) (hv : ∀ t ∈ ts, Lt t) (hrow : RowB w a ts) (hl : len ≤ ts.length) (hl' : ts.length ≤ len) (h20 : len ≤ 20000) :
    Calls Tryz.prog 121 #[.agg #[.string n, .slice a len cap]] w fun e w' => e = .returned (.int .i64 (chk (rightA n ts))) ∧ Below w.heap.size w w' := by
  have hlen : ts.length = len := by omega
  cases hnm : nameB n.data.toList with
  | false =>
    rw [chk_f (b := rightA _ _) (by simp [rightA, hnm])]
    go_enter Tryz.func121, Tryz.ntmps121
    go_wp2_with (go_at_call 120; refine (name_any _ _ (by unfold maxLen; omega)).mono ?_; rintro e w1 ⟨rfl, hb1⟩; rw [hnm])
    go_ret
    exact ⟨rfl, below_box hb1⟩
  | true =>
    by_cases h5 : 5 < len
    · rw [chk_f (b := rightA _ _) (by simp [rightA, hlen]; intros; omega)]
      have d5 : decide (5 < (len : Int)) = true := by simp; omega
      clear hlen
      go_enter Tryz.func121, Tryz.ntmps121
      go_wp2_with (go_at_call 120; refine (name_any _ _ (by unfold maxLen; omega)).mono ?_; rintro e w1 ⟨rfl, hb1⟩; rw [hnm]; obtain ⟨hcl, hfr⟩ := bcell hb1)
      go_ret
      exact ⟨rfl, below_box hb1⟩
    · have d5 : decide (5 < (len : Int)) = false := by simp; omega
      have hrf : rightA n ts = ts.all rightT := by simp [rightA, hnm, hlen]; omega
      rw [hrf]
      clear hlen hrf
      go_enter Tryz.func121, Tryz.ntmps121
      go_wp2_with (go_at_call 120; refine (name_any _ _ (by unfold maxLen; omega)).mono ?_; rintro e w1 ⟨rfl, hb1⟩; rw [hnm]; obtain ⟨hcl, hfr⟩ := bcell hb1)
      have hw1 := below_box hb1
      clear hb1 hcl hfr hnm
      go_loopw [4, 18] (fun _ i wr => ∃ k : Nat, k ≤ len ∧ i = .int .i64 k ∧ Hid ((ts.take k).all rightT = true) ∧ Below w.heap.size w wr) (fun _ i _ => len - (intOf i).toNat)
      case atStart => exact ⟨0, Nat.zero_le _, rfl, hide rfl, hw1⟩
      case round =>
        obtain ⟨k, hk, rfl, HK, hbw⟩ := hrel
        by_cases hlt : k < len
        · obtain ⟨b, o, ha, hbl, c0, c1, c2, c3⟩ := (hrow.on hbw).up (show k < ts.length by omega)
          subst ha
          have hsz := hv ts[k] (List.getElem_mem (by omega))
          have hbx : Below w.heap.size w (wr.alloc (bxT ts[k])) := hbw.alloc hbw.size _
          cases hr : rightT ts[k] with
          | false =>
            have HF := hide (chk_f (allT_get (show k < ts.length by omega) hr))
            have HR := hide hr
            clear hr
            generalize ts[k] = t at c0 c1 c2 c3 hsz hbx HR
            go_wp2_with fail
            refine (isRightT_q t false _ hsz HR).mono ?_
            rintro e w2 ⟨rfl, hb2⟩
            go_wp2_with fail
            go_ret
            exact ⟨ret_int (unhide HF).symm, bt hbx hb2⟩
          | true =>
            have HN := hide (allT_take (show k < ts.length by omega) hr (unhide HK))
            have HR := hide hr
            clear hr
            generalize ts[k] = t at c0 c1 c2 c3 hsz hbx HR
            go_wp2_with fail
            refine (isRightT_q t true _ hsz HR).mono ?_
            rintro e w2 ⟨rfl, hb2⟩
            go_wp2_with fail
            go_roundw
            case rel => exact ⟨k + 1, by omega, by go_num, HN, bt hbx hb2⟩
            case measure => simp [intOf]; omega
        · have ht : ts.all rightT = true := by
            have := unhide HK
            rwa [List.take_of_length_le (by omega)] at this
          have HF := hide (chk_t ht)
          clear ht
          go_wp2_with fail
          go_ret
          exact ⟨ret_int (unhide HF).symm, hbw⟩
end Go.Proofs.YtcjnhhbcleljmaaGreatDoor.Sb
