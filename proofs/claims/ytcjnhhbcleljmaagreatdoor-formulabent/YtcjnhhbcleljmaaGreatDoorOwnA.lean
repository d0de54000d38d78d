/- Plain functions on bytes, and facts on them: what a right value is. No program in it. -/
import Derived.WalkKit
namespace Go.Proofs.YtcjnhhbcleljmaaGreatDoor.V

theorem hide {p : Prop} (h : p) : RowKit.Hid p := h
theorem unhide {p : Prop} (h : RowKit.Hid p) : p := h.out

def digB (c : Int) : Bool := decide (48 ≤ c ∧ c ≤ 57)
def lowB (c : Int) : Bool := decide (97 ≤ c ∧ c ≤ 122)
def upB (c : Int) : Bool := decide (65 ≤ c ∧ c ≤ 90)
def escB (c : Int) : Bool := decide (c = 34 ∨ c = 92)
def innB (c : UInt8) : Bool := lowB c.toNat || upB c.toNat || digB c.toNat || (c.toNat : Int) == 95
def strC (c : UInt8) : Bool := decide (32 ≤ (c.toNat : Int) ∧ (c.toNat : Int) ≤ 126)
def symB : List UInt8 → Bool
  | [] => false
  | c :: r => decide (r.length + 1 ≤ 24) && (lowB c.toNat && (c :: r).all innB)
def strB (l : List UInt8) : Bool := decide (l.length ≤ 60) && l.all strC
def rightB (k n : Int) (s : List UInt8) : Bool :=
  if k = 1 then s.isEmpty && decide (-4611686018427387904 ≤ n ∧ n ≤ 4611686018427387904)
  else if k = 2 then (n == 0) && symB s
  else if k = 3 then (n == 0) && strB s
  else false

theorem digB_t {c : Int} (a : 48 ≤ c) (b : c ≤ 57) : digB c = true := decide_eq_true ⟨a, b⟩
theorem digB_f {c : Int} (h : ¬ (48 ≤ c ∧ c ≤ 57)) : digB c = false := decide_eq_false h
theorem lowB_t {c : Int} (a : 97 ≤ c) (b : c ≤ 122) : lowB c = true := decide_eq_true ⟨a, b⟩
theorem lowB_f {c : Int} (h : ¬ (97 ≤ c ∧ c ≤ 122)) : lowB c = false := decide_eq_false h
theorem upB_t {c : Int} (a : 65 ≤ c) (b : c ≤ 90) : upB c = true := decide_eq_true ⟨a, b⟩
theorem upB_f {c : Int} (h : ¬ (65 ≤ c ∧ c ≤ 90)) : upB c = false := decide_eq_false h
theorem escB_t {c : Int} (h : c = 34 ∨ c = 92) : escB c = true := decide_eq_true h
theorem escB_f {c : Int} (h : ¬ (c = 34 ∨ c = 92)) : escB c = false := decide_eq_false h

theorem take_snoc (s : ByteArray) (k : Nat) (h : k < s.size) : s.data.toList.take (k + 1) = s.data.toList.take k ++ [s[k]] := by
  rw [List.take_succ_eq_append_getElem (by simpa using h)]; rfl
theorem take_all (s : ByteArray) (k : Nat) (h : s.size ≤ k) : s.data.toList.take k = s.data.toList :=
  List.take_of_length_le (by simpa using h)
theorem all_take_get {p : UInt8 → Bool} (s : ByteArray) (k : Nat) (h : k < s.size) (hp : p s[k] = false) : s.data.toList.all p = false := by
  rw [List.all_eq_false]
  exact ⟨s[k], Array.getElem_mem_toList (xs := s.data) (i := k) h, by simp [hp]⟩

/-- A string's inside, as it is written: a slash ahead of each quote and slash. -/
def escL : List UInt8 → List UInt8
  | [] => []
  | c :: r => if escB c.toNat then 92 :: c :: escL r else c :: escL r
def quoteL (l : List UInt8) : List UInt8 := 34 :: (escL l ++ [34])
theorem escL_append (a b : List UInt8) : escL (a ++ b) = escL a ++ escL b := by
  induction a with
  | nil => rfl
  | cons c r ih => simp only [List.cons_append, escL, ih]; split <;> simp
theorem escL_one_t {c : UInt8} (h : escB c.toNat = true) : escL [c] = [92, c] := by simp [escL, h]
theorem escL_one_f {c : UInt8} (h : escB c.toNat = false) : escL [c] = [c] := by simp [escL, h]
theorem escL_length (l : List UInt8) : (escL l).length ≤ 2 * l.length := by
  induction l with
  | nil => simp [escL]
  | cons c r ih => simp only [escL]; split <;> simp <;> omega
end Go.Proofs.YtcjnhhbcleljmaaGreatDoor.V
