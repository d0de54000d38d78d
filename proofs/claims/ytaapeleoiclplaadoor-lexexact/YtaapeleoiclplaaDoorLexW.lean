/- How the reading of signs goes on, step by step; signs with their places as line and column. No program in it. -/
import Derived.Test.YtaapeleoiclplaaDoorLexV
namespace Go.Proofs.YtaapeleoiclplaaDoor.V

/-- Signs ahead of what is still read. -/
def preE (acc : List Tk) : Except Nat (List Tk) → Except Nat (List Tk)
  | .ok us => .ok (acc ++ us)
  | .error e => .error e
theorem pre_nil (x : Except Nat (List Tk)) : preE [] x = x := by cases x <;> rfl
theorem pre_pre (a b : List Tk) (x : Except Nat (List Tk)) : preE a (preE b x) = preE (a ++ b) x := by
  cases x with
  | ok us => simp [preE]
  | error e => rfl
theorem lex_blanks {R : Int → List UInt8 → Bool} : ∀ {l : List UInt8} {q : Nat}, lexA R l q = lexA R (l.drop (l.takeWhile blankB).length) (q + (l.takeWhile blankB).length) := by
  intro l
  induction l with
  | nil => intro q; rfl
  | cons c r ih =>
    intro q
    by_cases h : blankB c = true
    · rw [lexA_blank h, List.takeWhile_cons, if_pos h, List.length_cons, List.drop_succ_cons, ih]
      congr 1; omega
    · rw [List.takeWhile_cons, if_neg h]; rfl
theorem blankN_le (l : List UInt8) : blankN l ≤ l.length := by
  unfold blankN
  split <;> exact List.Sublist.length_le (List.takeWhile_sublist _)
theorem lex_blankN {R : Int → List UInt8 → Bool} {l : List UInt8} {q n : Nat} (h : blankN l = n) : lexA R l q = lexA R (l.drop n) (q + n) := by
  unfold blankN at h
  split at h
  · rename_i hc
    cases l with
    | nil => cases hc
    | cons c r =>
      have : c = 37 := by simpa [headB] using hc
      subst this
      rw [← h]; exact lexA_comment
  · rw [← h]; exact lex_blanks
theorem blankN_zero {c : UInt8} {r : List UInt8} (h : blankN (c :: r) = 0) : blankB c = false ∧ c ≠ 37 := by
  unfold blankN at h
  split at h
  · rename_i hc
    have : c = 37 := by simpa [headB] using hc
    subst this
    have := comment_pos r
    omega
  · rename_i hc
    refine ⟨?_, ?_⟩
    · cases hb : blankB c with
      | false => rfl
      | true => rw [List.takeWhile_cons, if_pos hb] at h; simp at h
    · rintro rfl; exact hc rfl
/-- The place behind n bytes more. -/
theorem posL_add (S : List UInt8) (q n : Nat) : posL S (q + n) = ((S.drop q).take n).foldl adv (posL S q) := by
  unfold posL
  rw [← List.foldl_append]
  congr 1
  rw [List.take_add]
/-- A sign as it lies in memory. -/
def tm (S : List UInt8) (t : Tk) : Int × ByteArray × Int × Int := (t.1, ⟨t.2.1.toArray⟩, ((posL S t.2.2).1 : Int), ((posL S t.2.2).2 : Int))
theorem wrong_error {R : Int → List UInt8 → Bool} {c : UInt8} {r : List UInt8} {q : Nat} (hb : blankN (c :: r) = 0) (h : ∀ k n, signL (c :: r) = some (k, n) → R k ((c :: r).take n) = false) : lexA R (c :: r) q = .error q := by
  obtain ⟨h1, h2⟩ := blankN_zero hb
  cases hs : signL (c :: r) with
  | none => exact lexA_none h1 h2 hs
  | some kn =>
    obtain ⟨k, n⟩ := kn
    exact lexA_wrong h1 h2 hs (h k n hs)
theorem right_ok {R : Int → List UInt8 → Bool} {c : UInt8} {r : List UInt8} {q n : Nat} {k : Int} (hb : blankN (c :: r) = 0) (hs : signL (c :: r) = some (k, n)) (hr : R k ((c :: r).take n) = true) :
    lexA R (c :: r) q = preE [(k, (c :: r).take n, q)] (lexA R ((c :: r).drop n) (q + n)) := by
  obtain ⟨h1, h2⟩ := blankN_zero hb
  rw [lexA_sign h1 h2 hs hr]
  cases lexA R ((c :: r).drop n) (q + n) <;> rfl
/-- What the program's sign and its test come to. -/
theorem prog_sign {c : UInt8} {r : List UInt8} {k : Int} {n q : Nat} (hb : blankN (c :: r) = 0) (hp : signP (c :: r) = (k, n)) :
    (okK k ((c :: r).take n) = false ∧ lexA rightK (c :: r) q = .error q) ∨
    (okK k ((c :: r).take n) = true ∧ 1 ≤ n ∧ n ≤ (c :: r).length ∧ lexA rightK (c :: r) q = preE [(k, (c :: r).take n, q)] (lexA rightK ((c :: r).drop n) (q + n))) := by
  cases hs : signL (c :: r) with
  | none =>
    have hk : (k = 4 ∨ k = 5) ∧ n = 0 := by
      rcases signP_none hs with h | h
      · rw [hp] at h
        obtain ⟨rfl, rfl⟩ := Prod.mk.inj h
        exact ⟨Or.inl rfl, rfl⟩
      · rw [hp] at h
        obtain ⟨rfl, rfl⟩ := Prod.mk.inj h
        exact ⟨Or.inr rfl, rfl⟩
    refine Or.inl ⟨by rw [hk.2]; exact okK_none hk.1, wrong_error hb (fun k' n' h => by rw [hs] at h; cases h)⟩
  | some kn =>
    obtain ⟨k', n'⟩ := kn
    have h := signP_some hs
    rw [hp] at h
    obtain ⟨rfl, rfl⟩ := Prod.mk.inj h
    have ho := okK_some hs
    cases hr : rightK k ((c :: r).take n) with
    | false => exact Or.inl ⟨by rw [ho, hr], wrong_error hb (fun k' n' h => by rw [hs] at h; obtain ⟨rfl, rfl⟩ := Prod.mk.inj (Option.some.inj h); exact hr)⟩
    | true => exact Or.inr ⟨by rw [ho, hr], signL_pos hs, signL_le hs, right_ok hb hs hr⟩
theorem signP_kind {l : List UInt8} : (signP l).1 = 1 ∨ (signP l).1 = 2 ∨ (signP l).1 = 3 ∨ (signP l).1 = 4 ∨ (signP l).1 = 5 := by
  cases l with
  | nil => simp [signP]
  | cons c r =>
    rw [signP_cons]
    split
    · simp
    · split
      · simp
      · split
        · simp
        · split <;> simp
theorem strN_le' {l : List UInt8} {n : Nat} (h : strN l = some n) : n ≤ l.length := strN_le _ (Nat.le_refl _) h
theorem signP_le (l : List UInt8) : (signP l).2 ≤ l.length := by
  cases l with
  | nil => simp [signP]
  | cons c r =>
    have t1 : ((c :: r).takeWhile innB).length ≤ (c :: r).length := List.Sublist.length_le (List.takeWhile_sublist _)
    have t2 : (r.takeWhile digC).length ≤ r.length := List.Sublist.length_le (List.takeWhile_sublist _)
    have t3 : strQ (c :: r) ≤ (c :: r).length := by
      unfold strQ
      split
      · rename_i n h
        have := strN_le' h
        simp at this ⊢; omega
      · simp
    have t4 : numN (c :: r) ≤ (c :: r).length := by
      rw [numN_cons]; split
      · simp; omega
      · simp
    have t5 : markN (c :: r) ≤ (c :: r).length := by
      rw [markN_cons]
      split
      · rename_i h
        cases r with
        | nil => cases h
        | cons d r => simp
      · split <;> simp
    rw [signP_cons]
    split
    · exact t1
    · split
      · exact t1
      · split
        · exact t3
        · split
          · exact t4
          · exact t5
theorem signP_four {c : UInt8} {r : List UInt8} (h : (signP (c :: r)).1 = 4) : c = 34 := by
  rw [signP_cons] at h
  split at h
  · simp at h
  · split at h
    · simp at h
    · split at h
      · assumption
      · split at h <;> simp at h
end Go.Proofs.YtaapeleoiclplaaDoor.V
