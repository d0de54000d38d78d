/- The place of a byte by line and column. No program in it. -/
import Derived.Test.YtaapeleoiclplaaDoorLexR
namespace Go.Proofs.YtaapeleoiclplaaDoor.V

/-- Behind a byte: a line more, or a column. -/
def adv (p : Nat × Nat) (c : UInt8) : Nat × Nat := if c = 10 then (p.1 + 1, 1) else (p.1, p.2 + 1)
/-- Where byte q stands. -/
def posL (s : List UInt8) (q : Nat) : Nat × Nat := (s.take q).foldl adv (1, 1)
theorem posL_zero (s : List UInt8) : posL s 0 = (1, 1) := by simp [posL]
theorem posL_succ {s : List UInt8} {q : Nat} (h : q < s.length) : posL s (q + 1) = adv (posL s q) s[q] := by
  unfold posL
  rw [List.take_succ_eq_append_getElem h, List.foldl_append]
  rfl
theorem posL_past {s : List UInt8} {q : Nat} (h : s.length ≤ q) : posL s q = posL s s.length := by
  unfold posL
  rw [List.take_of_length_le h, List.take_of_length_le (Nat.le_refl _)]
/-- Ahead of: by line, then by column. -/
def PLt (a b : Nat × Nat) : Prop := a.1 < b.1 ∨ (a.1 = b.1 ∧ a.2 < b.2)
theorem PLt.trans {a b c : Nat × Nat} (h : PLt a b) (k : PLt b c) : PLt a c := by
  unfold PLt at *
  omega
theorem PLt.ne {a b : Nat × Nat} (h : PLt a b) : a ≠ b := by
  intro e
  subst e
  unfold PLt at h
  omega
theorem adv_lt (p : Nat × Nat) (c : UInt8) : PLt p (adv p c) := by
  unfold PLt adv
  split
  · exact Or.inl (Nat.lt_succ_self _)
  · exact Or.inr ⟨rfl, Nat.lt_succ_self _⟩
theorem posL_lt {s : List UInt8} {i j : Nat} (h : i < j) (hj : j ≤ s.length) : PLt (posL s i) (posL s j) := by
  induction j with
  | zero => omega
  | succ j ih =>
    have h1 : PLt (posL s j) (posL s (j + 1)) := by rw [posL_succ (show j < s.length by omega)]; exact adv_lt _ _
    by_cases he : i = j
    · subst he; exact h1
    · exact (ih (by omega) (by omega)).trans h1
/-- No two bytes stand at one place. -/
theorem posL_inj {s : List UInt8} {i j : Nat} (hi : i ≤ s.length) (hj : j ≤ s.length) (h : posL s i = posL s j) : i = j := by
  rcases Nat.lt_trichotomy i j with k | k | k
  · exact absurd h (posL_lt k hj).ne
  · exact k
  · exact absurd h.symm (posL_lt k hi).ne
theorem posL_one (s : List UInt8) : ∀ q, 1 ≤ (posL s q).1 ∧ 1 ≤ (posL s q).2 ∧ (posL s q).1 ≤ q + 1 ∧ (posL s q).2 ≤ q + 1 := by
  intro q
  induction q with
  | zero => rw [posL_zero]; exact ⟨Nat.le_refl _, Nat.le_refl _, Nat.le_refl _, Nat.le_refl _⟩
  | succ q ih =>
    obtain ⟨h1, h2, h3, h4⟩ := ih
    by_cases h : q < s.length
    · rw [posL_succ h]
      unfold adv
      split
      · exact ⟨by simp, by simp, by simp; omega, by simp⟩
      · exact ⟨h1, by simp, by simp; omega, by simp; omega⟩
    · rw [posL_past (by omega), ← posL_past (show s.length ≤ q by omega)]
      omega
/-- Places rise as the signs do. -/
theorem spots_rise {s : List UInt8} : ∀ {ts : List Tk} {p : Nat}, Spots s p ts → ∀ t ∈ ts, p ≤ t.2.2 ∧ t.2.2 + t.2.1.length ≤ s.length ∧ t.2.2 < s.length ∧ (s.drop t.2.2).take t.2.1.length = t.2.1 := by
  intro ts
  induction ts with
  | nil => intro p _ t ht; cases ht
  | cons a ts ih =>
    intro p h t ht
    obtain ⟨h1, h2, h3, h4, h5⟩ := h
    rcases List.mem_cons.1 ht with rfl | ht
    · exact ⟨h1, h2, by omega, h3⟩
    · have := ih h5 t ht
      exact ⟨by omega, this.2.1, this.2.2.1, this.2.2.2⟩
end Go.Proofs.YtaapeleoiclplaaDoor.V
