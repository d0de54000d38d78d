/- Comparisons in plain words: whether two values compare a way, which comparisons are right, whether one holds. No program in it. -/
import Derived.Test.YtakhcifhfbiopaaExpG
namespace Go.Proofs.Ytakhcifhfbiopaa.Sb
open Go.RowKit
open V

def trp (v : Vv) : Int × Int × List UInt8 := (v.1, v.2.1, v.2.2.data.toList)
/-- The order of two values. -/
def cmpVv (a b : Vv) : Int := cmpV (trp a) (trp b)
theorem cmp_zero (a b : Vv) : cmpVv a b = 0 ↔ a = b := by
  unfold cmpVv
  rw [ord_val.zero]
  obtain ⟨k, n, s⟩ := a
  obtain ⟨k', n', s'⟩ := b
  simp only [trp, Prod.mk.injEq]
  constructor
  · rintro ⟨h1, h2, h3⟩; exact ⟨h1, h2, bytes_ext h3⟩
  · rintro ⟨rfl, rfl, rfl⟩; exact ⟨rfl, rfl, rfl⟩
theorem cmp_anti (a b : Vv) : cmpVv b a = - cmpVv a b := ord_val.anti _ _
theorem cmp_tri (a b : Vv) : cmpVv a b = -1 ∨ cmpVv a b = 0 ∨ cmpVv a b = 1 := ord_val.tri _ _

/-- One of the four ways; one that asks for an order. -/
def wayB (how : Int) : Bool := decide (1 ≤ how ∧ how ≤ 4)
def askB (how : Int) : Bool := decide (how = 3 ∨ how = 4)
theorem way_four {how : Int} (h : wayB how = true) : how = 1 ∨ how = 2 ∨ how = 3 ∨ how = 4 := by
  have := of_decide_eq_true h
  omega
/-- What an order says of a way. -/
def sayB (how c : Int) : Bool := if how = 1 then decide (c = 0) else if how = 2 then decide (c ≠ 0) else if how = 3 then decide (c < 0) else decide (c ≤ 0)
/-- Whether two values compare that way; or why not. -/
def holdR (how : Int) (a b : Vv) : Bool × Int :=
  if wayB how = true ∧ rightVv a = true ∧ rightVv b = true then (if askB how = true ∧ a.1 ≠ b.1 then (false, 3) else (sayB how (cmpVv a b), 0)) else (false, 1)
theorem hold_no {how : Int} {a b : Vv} (h : wayB how = false ∨ rightVv a = false ∨ rightVv b = false) : holdR how a b = (false, 1) := by
  unfold holdR
  rw [if_neg]
  rintro ⟨h1, h2, h3⟩
  rcases h with h | h | h
  · rw [h1] at h; cases h
  · rw [h2] at h; cases h
  · rw [h3] at h; cases h
theorem hold_kind {how : Int} {a b : Vv} (h1 : wayB how = true) (h2 : rightVv a = true) (h3 : rightVv b = true) (h4 : askB how = true) (h5 : a.1 ≠ b.1) : holdR how a b = (false, 3) := by
  unfold holdR
  rw [if_pos ⟨h1, h2, h3⟩, if_pos ⟨h4, h5⟩]
theorem hold_yes {how : Int} {a b : Vv} (h1 : wayB how = true) (h2 : rightVv a = true) (h3 : rightVv b = true) (h4 : askB how = false ∨ a.1 = b.1) : holdR how a b = (sayB how (cmpVv a b), 0) := by
  unfold holdR
  rw [if_pos ⟨h1, h2, h3⟩, if_neg]
  rintro ⟨h5, h6⟩
  rcases h4 with h | h
  · rw [h5] at h; cases h
  · exact h6 h
/-- A comparison: its kind, its atom's name and count, its way, its sides. -/
def guardB (k : Int) (n : ByteArray) (m : Nat) (how : Int) (x y : List Oo) : Bool := decide (k = 3) && (decide (n.size = 0) && (decide (m = 0) && (wayB how && (exprB x && exprB y))))
theorem guard_iff {k : Int} {n : ByteArray} {m : Nat} {how : Int} {x y : List Oo} : guardB k n m how x y = true ↔ k = 3 ∧ n.size = 0 ∧ m = 0 ∧ wayB how = true ∧ exprB x = true ∧ exprB y = true := by
  simp [guardB]
/-- Whether one holds with the values of a list; or why not. -/
def testR (b : List Bb) (how : Int) (x y : List Oo) : Bool × Int :=
  if (evalR b x).2 ≠ 0 then (false, (evalR b x).2) else if (evalR b y).2 ≠ 0 then (false, (evalR b y).2) else holdR how (evalR b x).1 (evalR b y).1
def gevalR (b : List Bb) (k : Int) (n : ByteArray) (m : Nat) (how : Int) (x y : List Oo) : Bool × Int :=
  if guardB k n m how x y = true then testR b how x y else (false, 1)
theorem test_left {b : List Bb} {how : Int} {x y : List Oo} {v : Vv} {r : Int} (h : evalR b x = (v, r)) (h0 : r ≠ 0) : testR b how x y = (false, r) := by
  unfold testR
  rw [h, if_pos h0]
theorem test_right {b : List Bb} {how : Int} {x y : List Oo} {v u : Vv} {r : Int} (h : evalR b x = (v, 0)) (k : evalR b y = (u, r)) (h0 : r ≠ 0) : testR b how x y = (false, r) := by
  unfold testR
  rw [h, k, if_neg (by simp), if_pos h0]
theorem test_both {b : List Bb} {how : Int} {x y : List Oo} {v u : Vv} (h : evalR b x = (v, 0)) (k : evalR b y = (u, 0)) : testR b how x y = holdR how v u := by
  unfold testR
  rw [h, k, if_neg (by simp), if_neg (by simp)]
theorem geval_no {b : List Bb} {k : Int} {n : ByteArray} {m : Nat} {how : Int} {x y : List Oo} (h : guardB k n m how x y = false) : gevalR b k n m how x y = (false, 1) := by
  unfold gevalR
  rw [if_neg (by simp [h])]
theorem geval_yes {b : List Bb} {k : Int} {n : ByteArray} {m : Nat} {how : Int} {x y : List Oo} (h : guardB k n m how x y = true) : gevalR b k n m how x y = testR b how x y := by
  unfold gevalR
  rw [if_pos h]
theorem ret_hold {x q : Bool} {m n : Int} (h : (x, m) = (q, n)) : Ending.returned (.tuple #[.bool x, .int .i64 m]) = .returned (.tuple #[.bool q, .int .i64 n]) := by
  cases h; rfl
end Go.Proofs.Ytakhcifhfbiopaa.Sb
