/- Lists of variables' values that are not too long: small words. -/
import Derived.Test.YtmoalmpcobljkaaSubD
namespace Go.Proofs.Ytmoalmpcobljkaa.Sb
open Go.RowKit
open V

theorem refVar_q (s : ByteArray) (q : Bool) (w : World) (hs : s.size ≤ 200) (H : Hid (varB s.data.toList = q)) :
    Calls Try.prog 41 #[.string s, .bool true] w fun e w' => e = .returned (.bool q) ∧ Below w.heap.size w w' := by
  refine (refWordU_any s w (by unfold maxLen; omega)).mono ?_
  rintro e w' ⟨rfl, hw⟩
  subst hw
  exact ⟨ret_bool' (unhide H), Below.refl _ _⟩
theorem refVal_q (v : Vv) (q : Bool) (w : World) (hs : v.2.2.size ≤ 200) (H : Hid (rightVv v = q)) :
    Calls Try.prog 29 #[.agg #[.int .i64 v.1, .int .i64 v.2.1, .string v.2.2]] w fun e w' => e = .returned (.bool q) ∧ Below w.heap.size w w' := by
  have := refValue_any v.1 v.2.1 v.2.2 w (by omega)
  rw [show rightB v.1 v.2.1 v.2.2.data.toList = q from unhide H] at this
  exact this
theorem size_f {n : Nat} (h : ¬ 200 < n) : decide (200 < (n : Int)) = false := decide_eq_false (by omega)
theorem size_t {n : Nat} (h : 200 < n) : decide (200 < (n : Int)) = true := decide_eq_true (by omega)

end Go.Proofs.Ytmoalmpcobljkaa.Sb
