/- The program's way of looking at a sign's first bytes, in plain words, and that it comes to the page's. No program in it. -/
import Derived.Test.YtaapeleoiclplaaDoorLexT
namespace Go.Proofs.YtaapeleoiclplaaDoor.V

/-- How many bytes a run of blanks, or a comment, has at the beginning. -/
def blankN (l : List UInt8) : Nat := if headB (· == 37) l = true then (l.takeWhile (· != 10)).length else (l.takeWhile blankB).length
/-- Up to the quote that closes: 0, if none does. -/
def strQ (l : List UInt8) : Nat := match strN (l.drop 1) with
  | some n => n + 1
  | none => 0
def numN : List UInt8 → Nat
  | [] => 0
  | c :: r => if digC c || (c == 45 && headB digC r) then 1 + (r.takeWhile digC).length else 0
def markN : List UInt8 → Nat
  | [] => 0
  | c :: r => if headB (twoB c) r then 2 else if singB c then 1 else 0
def signP : List UInt8 → Int × Nat
  | [] => (5, 0)
  | c :: r => if lowB c.toNat then (1, ((c :: r).takeWhile innB).length) else if upB c.toNat then (2, ((c :: r).takeWhile innB).length)
    else if c = 34 then (4, strQ (c :: r)) else if 0 < numN (c :: r) then (3, numN (c :: r)) else (5, markN (c :: r))

theorem numN_cons (c : UInt8) (r : List UInt8) : numN (c :: r) = if digC c || (c == 45 && headB digC r) then 1 + (r.takeWhile digC).length else 0 := rfl
theorem markN_cons (c : UInt8) (r : List UInt8) : markN (c :: r) = if headB (twoB c) r then 2 else if singB c then 1 else 0 := rfl
theorem signP_cons (c : UInt8) (r : List UInt8) : signP (c :: r) = if lowB c.toNat then (1, ((c :: r).takeWhile innB).length) else if upB c.toNat then (2, ((c :: r).takeWhile innB).length)
    else if c = 34 then (4, strQ (c :: r)) else if 0 < numN (c :: r) then (3, numN (c :: r)) else (5, markN (c :: r)) := rfl
theorem inn_low {c : UInt8} (h : lowB c.toNat = true) : innB c = true := by simp [innB, h]
theorem inn_up {c : UInt8} (h : upB c.toNat = true) : innB c = true := by simp [innB, h]
theorem not_digC_34 : digC 34 = false := rfl
theorem signP_some {l : List UInt8} {k : Int} {n : Nat} (h : signL l = some (k, n)) : signP l = (k, n) := by
  cases l with
  | nil => cases h
  | cons c r =>
    rw [signL_cons] at h
    rw [signP_cons]
    by_cases h1 : lowB c.toNat = true
    · have h1' : letB c = true := by simp [letB, h1]
      rw [if_pos h1'] at h
      rw [if_pos h1, List.takeWhile_cons, if_pos (inn_low h1), ← Option.some.inj h, if_pos h1, List.length_cons, Nat.add_comm]
    rw [if_neg h1]
    by_cases h2 : upB c.toNat = true
    · have h2' : letB c = true := by simp [letB, h2]
      rw [if_pos h2'] at h
      rw [if_pos h2, List.takeWhile_cons, if_pos (inn_up h2), ← Option.some.inj h, if_neg h1, List.length_cons, Nat.add_comm]
    rw [if_neg h2]
    have hl : ¬ letB c = true := by simp [letB, h1, h2]
    rw [if_neg hl] at h
    by_cases h3 : c = 34
    · subst h3
      rw [if_neg (show ¬ ((digC 34 || ((34 : UInt8) == 45 && headB digC r)) = true) by rw [not_digC_34, show ((34 : UInt8) == 45) = false from rfl]; simp), if_pos rfl] at h
      rw [if_pos rfl]
      simp only [Option.map_eq_some_iff] at h
      obtain ⟨m, hm, e⟩ := h
      have : strQ (34 :: r) = m + 1 := by unfold strQ; rw [List.drop_succ_cons, List.drop_zero, hm]
      rw [this, ← e]
    rw [if_neg h3]
    by_cases h4 : (digC c || (c == 45 && headB digC r)) = true
    · rw [if_pos h4] at h
      have : numN (c :: r) = 1 + (r.takeWhile digC).length := by rw [numN_cons]; rw [if_pos h4]
      rw [this, if_pos (by omega), ← Option.some.inj h]
    rw [if_neg h4, if_neg h3] at h
    have : numN (c :: r) = 0 := by rw [numN_cons]; rw [if_neg h4]
    rw [this, if_neg (by omega)]
    rw [markN_cons]
    by_cases h5 : headB (twoB c) r = true
    · rw [if_pos h5] at h ⊢
      rw [← Option.some.inj h]
    rw [if_neg h5] at h ⊢
    by_cases h6 : singB c = true
    · rw [if_pos h6] at h ⊢
      rw [← Option.some.inj h]
    · rw [if_neg h6] at h; cases h
theorem signP_none {l : List UInt8} (h : signL l = none) : signP l = (4, 0) ∨ signP l = (5, 0) := by
  cases l with
  | nil => exact Or.inr rfl
  | cons c r =>
    rw [signL_cons] at h
    by_cases h0 : letB c = true
    · rw [if_pos h0] at h; cases h
    rw [if_neg h0] at h
    have h1 : ¬ lowB c.toNat = true := by
      intro e; exact h0 (by simp [letB, e])
    have h2 : ¬ upB c.toNat = true := by
      intro e; exact h0 (by simp [letB, e])
    rw [signP_cons]
    rw [if_neg h1, if_neg h2]
    by_cases h4 : (digC c || (c == 45 && headB digC r)) = true
    · rw [if_pos h4] at h; cases h
    rw [if_neg h4] at h
    by_cases h3 : c = 34
    · rw [if_pos h3] at h ⊢
      have hm : strN r = none := by simpa using h
      have : strQ (c :: r) = 0 := by unfold strQ; rw [List.drop_succ_cons, List.drop_zero, hm]
      rw [this]; exact Or.inl rfl
    rw [if_neg h3] at h ⊢
    have : numN (c :: r) = 0 := by rw [numN_cons]; rw [if_neg h4]
    rw [this, if_neg (by omega)]
    rw [markN_cons]
    by_cases h5 : headB (twoB c) r = true
    · rw [if_pos h5] at h; cases h
    rw [if_neg h5] at h ⊢
    by_cases h6 : singB c = true
    · rw [if_pos h6] at h; cases h
    · rw [if_neg h6]; exact Or.inr rfl

/-- What the program asks of a sign. -/
def okK (k : Int) (x : List UInt8) : Bool :=
  if k = 1 then symB x else if k = 2 then varB x else if k = 3 then atoiB x else if k = 4 then (parseL x).isSome else !x.isEmpty
/-- The program's test says what the page's says. -/
theorem okK_some {l : List UInt8} {k : Int} {n : Nat} (h : signL l = some (k, n)) : okK k (l.take n) = rightK k (l.take n) := by
  cases l with
  | nil => cases h
  | cons c r =>
    have hn := signL_pos h
    have hl := signL_le h
    rw [signL_cons] at h
    by_cases h1 : letB c = true
    · rw [if_pos h1] at h
      have := (Prod.mk.inj (Option.some.inj h)).1
      rw [← this]
      split <;> rfl
    rw [if_neg h1] at h
    by_cases h2 : (digC c || (c == 45 && headB digC r)) = true
    · rw [if_pos h2] at h
      obtain ⟨e1, e2⟩ := Prod.mk.inj (Option.some.inj h)
      rw [← e1, ← e2]
      exact num_same (numeral_of h2)
    rw [if_neg h2] at h
    by_cases h3 : c = 34
    · rw [if_pos h3] at h
      simp only [Option.map_eq_some_iff] at h
      obtain ⟨m, hm, e⟩ := h
      obtain ⟨e1, e2⟩ := Prod.mk.inj e
      rw [← e1, ← e2, h3, List.take_succ_cons]
      exact quo_same _
    rw [if_neg h3] at h
    have hk : k = 5 := by
      by_cases h4 : headB (twoB c) r = true
      · rw [if_pos h4] at h; exact (Prod.mk.inj (Option.some.inj h)).1.symm
      rw [if_neg h4] at h
      by_cases h5 : singB c = true
      · rw [if_pos h5] at h; exact (Prod.mk.inj (Option.some.inj h)).1.symm
      · rw [if_neg h5] at h; cases h
    subst hk
    rw [rightK5]
    cases n with
    | zero => omega
    | succ n => rfl
theorem okK_none {k : Int} (h : k = 4 ∨ k = 5) : okK k [] = false := by
  rcases h with rfl | rfl <;> rfl
end Go.Proofs.YtaapeleoiclplaaDoor.V
