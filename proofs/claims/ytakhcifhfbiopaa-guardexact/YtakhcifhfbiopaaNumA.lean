/- Plain numbers with bounds: what two come to, what a list comes to, and facts on them. No program in it. -/
import Derived.WalkKit
namespace Go.Proofs.Ytakhcifhfbiopaa.N

theorem hide {p : Prop} (h : p) : RowKit.Hid p := h
theorem unhide {p : Prop} (h : RowKit.Hid p) : p := h.out

def inB (n : Int) : Bool := decide (-4611686018427387904 ≤ n ∧ n ≤ 4611686018427387904)
def res (r : Int) : Int × Int := if -4611686018427387904 ≤ r ∧ r ≤ 4611686018427387904 then (r, 0) else (0, 4)
def doL (k a b : Int) : Int × Int :=
  if k = 3 ∨ k = 4 ∨ k = 5 then
    if inB a = true ∧ inB b = true then res (if k = 3 then a + b else if k = 4 then a - b else a * b) else (0, 4)
  else (0, 3)
def siz (n : Int) : Int := if 0 ≤ n then n else -n

theorem inB_t {n : Int} (a : -4611686018427387904 ≤ n) (b : n ≤ 4611686018427387904) : inB n = true := decide_eq_true ⟨a, b⟩
theorem inB_f {n : Int} (h : ¬ (-4611686018427387904 ≤ n ∧ n ≤ 4611686018427387904)) : inB n = false := decide_eq_false h
theorem inB_p {n : Int} (h : inB n = true) : -4611686018427387904 ≤ n ∧ n ≤ 4611686018427387904 := of_decide_eq_true h
theorem inB_n {n : Int} (h : inB n = false) : ¬ (-4611686018427387904 ≤ n ∧ n ≤ 4611686018427387904) := of_decide_eq_false h
theorem res_t {r : Int} (a : -4611686018427387904 ≤ r) (b : r ≤ 4611686018427387904) : res r = (r, 0) := if_pos ⟨a, b⟩
theorem res_f {r : Int} (h : ¬ (-4611686018427387904 ≤ r ∧ r ≤ 4611686018427387904)) : res r = (0, 4) := if_neg h
theorem doL_kind {k : Int} (a b : Int) (h : ¬ (k = 3 ∨ k = 4 ∨ k = 5)) : doL k a b = (0, 3) := if_neg h
theorem doL_out {k a b : Int} (h : k = 3 ∨ k = 4 ∨ k = 5) (hb : inB a = false ∨ inB b = false) : doL k a b = (0, 4) := by
  unfold doL; rw [if_pos h, if_neg]; rintro ⟨p, q⟩; rcases hb with hb | hb <;> simp_all
theorem doL_add {a b : Int} (ha : inB a = true) (hb : inB b = true) : doL 3 a b = res (a + b) := by
  unfold doL; rw [if_pos (Or.inl rfl), if_pos ⟨ha, hb⟩, if_pos rfl]
theorem doL_sub {a b : Int} (ha : inB a = true) (hb : inB b = true) : doL 4 a b = res (a - b) := by
  unfold doL; rw [if_pos (Or.inr (Or.inl rfl)), if_pos ⟨ha, hb⟩, if_neg (by decide), if_pos rfl]
theorem doL_mul {a b : Int} (ha : inB a = true) (hb : inB b = true) : doL 5 a b = res (a * b) := by
  unfold doL; rw [if_pos (Or.inr (Or.inr rfl)), if_pos ⟨ha, hb⟩, if_neg (by decide), if_neg (by decide)]

theorem siz_pos {n : Int} (h : 0 ≤ n) : siz n = n := if_pos h
theorem siz_neg {n : Int} (h : ¬ 0 ≤ n) : siz n = -n := if_neg h
theorem siz_natAbs (n : Int) : siz n = n.natAbs := by unfold siz; split <;> omega
/-- A product stays within the bounds just if the one's size is at most the bound, parted by the other's. -/
theorem mul_in {a b : Int} (h : a ≠ 0) : siz b ≤ 4611686018427387904 / siz a ↔ (-4611686018427387904 ≤ a * b ∧ a * b ≤ 4611686018427387904) := by
  have pa : 0 < siz a := by unfold siz; split <;> omega
  rw [Int.le_ediv_iff_mul_le pa, siz_natAbs, siz_natAbs]
  have : ((b.natAbs : Int) * a.natAbs) = (a * b).natAbs := by rw [Int.natAbs_mul, Int.mul_comm]; simp
  rw [this]; omega
theorem quo_bd {a : Int} (h : a ≠ 0) : 0 ≤ 4611686018427387904 / siz a ∧ 4611686018427387904 / siz a ≤ 4611686018427387904 := by
  have pa : 0 < siz a := by unfold siz; split <;> omega
  exact ⟨Int.ediv_nonneg (by decide) (by omega), Int.ediv_le_self _ (by decide)⟩

/-- The sum of a list, from the first one on. -/
def sumL : Int → List Int → Int × Int
  | s, [] => (s, 0)
  | s, n :: r => if (doL 3 s n).2 = 0 then sumL (doL 3 s n).1 r else (0, (doL 3 s n).2)
end Go.Proofs.Ytakhcifhfbiopaa.N
