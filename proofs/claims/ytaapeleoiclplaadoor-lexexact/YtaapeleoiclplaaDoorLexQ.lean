/- The signs of a text, joined by blanks, are the same signs; each stands in the text at its place. No program in it. -/
import Derived.Test.YtaapeleoiclplaaDoorLexP
namespace Go.Proofs.YtaapeleoiclplaaDoor.V

theorem tw_exact {p : UInt8 → Bool} : ∀ {x r0 r : List UInt8}, ((x ++ r0).takeWhile p).length = x.length → headB p r = false → ((x ++ r).takeWhile p).length = x.length := by
  intro x
  induction x with
  | nil =>
    intro r0 r _ hr
    cases r with
    | nil => rfl
    | cons a r => simp only [headB] at hr; simp [hr]
  | cons a x ih =>
    intro r0 r h hr
    by_cases ha : p a = true
    · simp only [List.cons_append, List.takeWhile_cons, ha, if_true, List.length_cons] at h ⊢
      rw [ih (r0 := r0) (by omega) hr]
    · simp [ha] at h
theorem strN_cons (c : UInt8) (r : List UInt8) : strN (c :: r) = if c = 34 then some 1 else if c = 92 then (match r with
      | [] => none
      | _ :: q => (strN q).map (· + 2)) else (strN r).map (· + 1) := by
  conv => lhs; unfold strN
  cases r <;> rfl
theorem strN_pos {l : List UInt8} {n : Nat} (h : strN l = some n) : 1 ≤ n := by
  cases l with
  | nil => cases h
  | cons c r =>
    rw [strN_cons] at h
    by_cases h1 : c = 34
    · rw [if_pos h1] at h; cases h; omega
    rw [if_neg h1] at h
    by_cases h2 : c = 92
    · rw [if_pos h2] at h
      cases r with
      | nil => cases h
      | cons d q =>
        simp only [Option.map_eq_some_iff] at h
        obtain ⟨m, -, rfl⟩ := h; omega
    · rw [if_neg h2] at h
      simp only [Option.map_eq_some_iff] at h
      obtain ⟨m, -, rfl⟩ := h; omega
theorem strN_exact : ∀ (m : Nat) {x r0 r : List UInt8}, x.length ≤ m → strN (x ++ r0) = some x.length → strN (x ++ r) = some x.length := by
  intro m
  induction m with
  | zero =>
    intro x r0 r hm h
    have : x = [] := List.eq_nil_of_length_eq_zero (by omega)
    subst this
    have := strN_pos h
    simp at this
  | succ m ih =>
    intro x r0 r hm h
    cases x with
    | nil => have := strN_pos h; simp at this
    | cons a y =>
      simp only [List.cons_append] at h ⊢
      rw [strN_cons] at h ⊢
      by_cases h1 : a = 34
      · rw [if_pos h1] at h ⊢; exact h
      rw [if_neg h1] at h ⊢
      by_cases h2 : a = 92
      · rw [if_pos h2] at h ⊢
        cases y with
        | nil =>
          simp only [List.nil_append] at h
          cases r0 with
          | nil => cases h
          | cons d q =>
            simp only [Option.map_eq_some_iff] at h
            obtain ⟨k, -, hk⟩ := h
            simp at hk
        | cons d y =>
          simp only [List.cons_append, Option.map_eq_some_iff, List.length_cons] at h ⊢
          obtain ⟨k, hk, hk2⟩ := h
          have : k = y.length := by omega
          subst this
          exact ⟨y.length, ih (by simp at hm; omega) hk, rfl⟩
      · rw [if_neg h2] at h ⊢
        simp only [Option.map_eq_some_iff, List.length_cons] at h ⊢
        obtain ⟨k, hk, hk2⟩ := h
        have : k = y.length := by omega
        subst this
        exact ⟨y.length, ih (by simp at hm; omega) hk, rfl⟩
theorem blank_cases {c : UInt8} (h : blankB c = true) : c = 32 ∨ c = 9 ∨ c = 13 ∨ c = 10 := by
  simp only [blankB, Bool.or_eq_true, beq_iff_eq] at h
  rcases h with ((h | h) | h) | h
  · exact Or.inl h
  · exact Or.inr (Or.inl h)
  · exact Or.inr (Or.inr (Or.inl h))
  · exact Or.inr (Or.inr (Or.inr h))
theorem blank_inn {c : UInt8} (h : blankB c = true) : innB c = false := by
  rcases blank_cases h with rfl | rfl | rfl | rfl <;> rfl
theorem blank_dig {c : UInt8} (h : blankB c = true) : digC c = false := by
  rcases blank_cases h with rfl | rfl | rfl | rfl <;> rfl
theorem blank_two {c d : UInt8} (h : blankB d = true) : twoB c d = false := by
  rcases blank_cases h with rfl | rfl | rfl | rfl <;> simp [twoB]
/-- Nothing, or a blank first. -/
def Ends (r : List UInt8) : Prop := r = [] ∨ headB blankB r = true
theorem ends_head {p : UInt8 → Bool} (hp : ∀ c, blankB c = true → p c = false) {r : List UInt8} (h : Ends r) : headB p r = false := by
  rcases h with rfl | h
  · rfl
  · cases r with
    | nil => rfl
    | cons c r => exact hp c h
/-- A sign ahead of a blank, or at the end, is the same sign. -/
theorem sign_again {x r0 r : List UInt8} {k : Int} (h : signL (x ++ r0) = some (k, x.length)) (hr : Ends r) : signL (x ++ r) = some (k, x.length) := by
  cases x with
  | nil =>
    have := signL_pos h
    simp at this
  | cons c x =>
    simp only [List.cons_append] at h ⊢
    rw [signL_cons] at h ⊢
    by_cases h1 : letB c = true
    · rw [if_pos h1] at h ⊢
      obtain ⟨e1, e2⟩ := Prod.mk.inj (Option.some.inj h)
      rw [tw_exact (r0 := r0) (x := x) (by simp at e2; omega) (ends_head (fun _ => blank_inn) hr), e1]
      simp; omega
    rw [if_neg h1] at h ⊢
    by_cases h2 : (digC c || (c == 45 && headB digC (x ++ r0))) = true
    · rw [if_pos h2] at h
      obtain ⟨e1, e2⟩ := Prod.mk.inj (Option.some.inj h)
      have hx : ((x ++ r0).takeWhile digC).length = x.length := by simp at e2; omega
      have h2' : (digC c || (c == 45 && headB digC (x ++ r))) = true := by
        by_cases hd : digC c = true
        · simp [hd]
        · simp only [hd, Bool.false_or, Bool.and_eq_true] at h2 ⊢
          refine ⟨h2.1, ?_⟩
          cases x with
          | cons d x => exact h2.2
          | nil =>
            exfalso
            have h3 := h2.2
            cases r0 with
            | nil => cases h3
            | cons d r0 =>
              simp only [List.nil_append, headB] at h3
              simp [h3] at hx
      rw [if_pos h2', tw_exact (r0 := r0) (x := x) hx (ends_head (fun _ => blank_dig) hr), e1]
      simp; omega
    have h2' : ¬ (digC c || (c == 45 && headB digC (x ++ r))) = true := by
      simp only [Bool.or_eq_true, Bool.and_eq_true, not_or, not_and] at h2 ⊢
      refine ⟨h2.1, fun h45 => ?_⟩
      cases x with
      | cons d x => exact h2.2 h45
      | nil =>
        rw [List.nil_append, ends_head (fun _ => blank_dig) hr]
        simp
    rw [if_neg h2] at h
    rw [if_neg h2']
    by_cases h3 : c = 34
    · rw [if_pos h3] at h ⊢
      simp only [Option.map_eq_some_iff] at h ⊢
      obtain ⟨m, hm, e⟩ := h
      obtain ⟨e1, e2⟩ := Prod.mk.inj e
      have : m = x.length := by simp at e2; omega
      subst this
      exact ⟨x.length, strN_exact _ (Nat.le_refl _) hm, e⟩
    rw [if_neg h3] at h ⊢
    by_cases h4 : headB (twoB c) (x ++ r0) = true
    · rw [if_pos h4] at h
      obtain ⟨e1, e2⟩ := Prod.mk.inj (Option.some.inj h)
      cases x with
      | nil => simp at e2
      | cons d x => rw [if_pos (show headB (twoB c) (d :: x ++ r) = true from h4)]; exact h
    rw [if_neg h4] at h
    by_cases h5 : singB c = true
    · rw [if_pos h5] at h
      obtain ⟨e1, e2⟩ := Prod.mk.inj (Option.some.inj h)
      have hx : x = [] := by
        cases x with
        | nil => rfl
        | cons d x => simp at e2
      subst hx
      rw [List.nil_append, ends_head (fun _ => blank_two) hr, if_neg (by simp), if_pos h5]
      exact h
    · rw [if_neg h5] at h; cases h
end Go.Proofs.YtaapeleoiclplaaDoor.V
