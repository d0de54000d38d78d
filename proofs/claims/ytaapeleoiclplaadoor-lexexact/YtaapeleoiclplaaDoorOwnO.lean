/- The order of values is one: plain facts on integers and bytes. No program in it. -/
import Derived.Test.YtaapeleoiclplaaDoorOwnM
namespace Go.Proofs.YtaapeleoiclplaaDoor.V

theorem cI_lt {x y : Int} (h : x < y) : Lib.compareInt x y = -1 := by simp [Lib.compareInt, h]
theorem cI_gt {x y : Int} (h : y < x) : Lib.compareInt x y = 1 := by simp [Lib.compareInt, h]; omega
theorem cI_eq (x : Int) : Lib.compareInt x x = 0 := by simp [Lib.compareInt]

/-- One order: of two one is ahead, or they are the same; what is ahead of what is ahead is ahead. -/
structure Ord3 {α : Type} (f : α → α → Int) : Prop where
  tri : ∀ a b, f a b = -1 ∨ f a b = 0 ∨ f a b = 1
  anti : ∀ a b, f b a = - f a b
  zero : ∀ a b, f a b = 0 ↔ a = b
  trans : ∀ a b c, f a b = -1 → f b c = -1 → f a c = -1

theorem ord_int : Ord3 Lib.compareInt := by
  refine ⟨fun a b => ?_, fun a b => ?_, fun a b => ?_, fun a b c => ?_⟩
  · rcases Int.lt_trichotomy a b with h | h | h
    · exact Or.inl (cI_lt h)
    · subst h; exact Or.inr (Or.inl (cI_eq _))
    · exact Or.inr (Or.inr (cI_gt h))
  · rcases Int.lt_trichotomy a b with h | h | h
    · rw [cI_lt h, cI_gt h]; rfl
    · subst h; rw [cI_eq]; rfl
    · rw [cI_lt h, cI_gt h]
  · rcases Int.lt_trichotomy a b with h | h | h
    · rw [cI_lt h]; constructor <;> intro h' <;> omega
    · subst h; simp [cI_eq]
    · rw [cI_gt h]; constructor <;> intro h' <;> omega
  · intro h1 h2
    have a1 : a < b := by
      rcases Int.lt_trichotomy a b with h | h | h
      · exact h
      · subst h; rw [cI_eq] at h1; omega
      · rw [cI_gt h] at h1; omega
    have a2 : b < c := by
      rcases Int.lt_trichotomy b c with h | h | h
      · exact h
      · subst h; rw [cI_eq] at h2; omega
      · rw [cI_gt h] at h2; omega
    exact cI_lt (by omega)

theorem u8_tri (a b : UInt8) : a < b ∨ a = b ∨ b < a := by
  rcases Nat.lt_trichotomy a.toNat b.toNat with h | h | h
  · exact Or.inl (UInt8.lt_iff_toNat_lt.2 h)
  · exact Or.inr (Or.inl (UInt8.toNat_inj.1 h))
  · exact Or.inr (Or.inr (UInt8.lt_iff_toNat_lt.2 h))
theorem u8_irrefl (a : UInt8) : ¬ a < a := by rw [UInt8.lt_iff_toNat_lt]; omega
theorem u8_asymm {a b : UInt8} (h : a < b) : ¬ b < a := by rw [UInt8.lt_iff_toNat_lt] at *; omega
theorem u8_trans {a b c : UInt8} (h : a < b) (k : b < c) : a < c := by rw [UInt8.lt_iff_toNat_lt] at *; omega

theorem cB_lt {a b : UInt8} {as bs : List UInt8} (h : a < b) : Lib.compareBytes (a :: as) (b :: bs) = -1 := by simp [Lib.compareBytes, h]
theorem cB_gt {a b : UInt8} {as bs : List UInt8} (h : b < a) : Lib.compareBytes (a :: as) (b :: bs) = 1 := by
  have := u8_asymm h
  simp only [Lib.compareBytes, this, h, if_false, if_true]
theorem cB_same {a : UInt8} {as bs : List UInt8} : Lib.compareBytes (a :: as) (a :: bs) = Lib.compareBytes as bs := by simp [Lib.compareBytes]

theorem cB_tri (a b : List UInt8) : Lib.compareBytes a b = -1 ∨ Lib.compareBytes a b = 0 ∨ Lib.compareBytes a b = 1 := by
  induction a generalizing b with
  | nil => cases b <;> simp [Lib.compareBytes]
  | cons x xs ih =>
    cases b with
    | nil => simp [Lib.compareBytes]
    | cons y ys =>
      rcases u8_tri x y with h | h | h
      · exact Or.inl (cB_lt h)
      · subst h; rw [cB_same]; exact ih ys
      · exact Or.inr (Or.inr (cB_gt h))
theorem cB_anti (a b : List UInt8) : Lib.compareBytes b a = - Lib.compareBytes a b := by
  induction a generalizing b with
  | nil => cases b <;> simp [Lib.compareBytes]
  | cons x xs ih =>
    cases b with
    | nil => simp [Lib.compareBytes]
    | cons y ys =>
      rcases u8_tri x y with h | h | h
      · rw [cB_lt h, cB_gt h]; rfl
      · subst h; rw [cB_same, cB_same]; exact ih ys
      · rw [cB_lt h, cB_gt h]
theorem cB_zero (a b : List UInt8) : Lib.compareBytes a b = 0 ↔ a = b := by
  induction a generalizing b with
  | nil => cases b <;> simp [Lib.compareBytes]
  | cons x xs ih =>
    cases b with
    | nil => simp [Lib.compareBytes]
    | cons y ys =>
      rcases u8_tri x y with h | h | h
      · rw [cB_lt h]
        constructor
        · intro h'; omega
        · intro h'; simp at h'; exact absurd (h'.1 ▸ h) (u8_irrefl _)
      · subst h; rw [cB_same, ih]; simp
      · rw [cB_gt h]
        constructor
        · intro h'; omega
        · intro h'; simp at h'; exact absurd (h'.1 ▸ h) (u8_irrefl _)
theorem cB_trans (a b c : List UInt8) : Lib.compareBytes a b = -1 → Lib.compareBytes b c = -1 → Lib.compareBytes a c = -1 := by
  induction a generalizing b c with
  | nil =>
    intro h1 h2
    cases c with
    | nil => cases b <;> simp [Lib.compareBytes] at h1 h2
    | cons z zs => simp [Lib.compareBytes]
  | cons x xs ih =>
    intro h1 h2
    cases b with
    | nil => simp [Lib.compareBytes] at h1
    | cons y ys =>
      cases c with
      | nil => simp [Lib.compareBytes] at h2
      | cons z zs =>
        rcases u8_tri x y with h | h | h
        · rcases u8_tri y z with k | k | k
          · exact cB_lt (u8_trans h k)
          · subst k; exact cB_lt h
          · rw [cB_gt k] at h2; omega
        · subst h
          rw [cB_same] at h1
          rcases u8_tri x z with k | k | k
          · exact cB_lt k
          · subst k; rw [cB_same] at h2 ⊢; exact ih ys zs h1 h2
          · rw [cB_gt k] at h2; omega
        · rw [cB_gt h] at h1; omega
theorem ord_bytes : Ord3 Lib.compareBytes := ⟨cB_tri, cB_anti, cB_zero, cB_trans⟩

def orV (x y z : Int) : Int := if x ≠ 0 then x else if y ≠ 0 then y else z
/-- The order of values: by kind, then number, then bytes. -/
def cmpV (a b : Int × Int × List UInt8) : Int := orV (Lib.compareInt a.1 b.1) (Lib.compareInt a.2.1 b.2.1) (Lib.compareBytes a.2.2 b.2.2)

theorem ord_val : Ord3 cmpV := by
  have I := ord_int
  have S := ord_bytes
  refine ⟨fun a b => ?_, fun a b => ?_, fun a b => ?_, fun a b c => ?_⟩
  · have h1 := I.tri a.1 b.1
    have h2 := I.tri a.2.1 b.2.1
    have h3 := S.tri a.2.2 b.2.2
    unfold cmpV orV
    split
    · exact h1
    · split
      · exact h2
      · exact h3
  · unfold cmpV orV
    rw [I.anti a.1 b.1, I.anti a.2.1 b.2.1, S.anti a.2.2 b.2.2]
    split <;> split <;> (try split) <;> (try split) <;> omega
  · have h1 := I.zero a.1 b.1
    have h2 := I.zero a.2.1 b.2.1
    have h3 := S.zero a.2.2 b.2.2
    obtain ⟨a1, a2, a3⟩ := a
    obtain ⟨b1, b2, b3⟩ := b
    simp only at h1 h2 h3
    unfold cmpV orV
    simp only [Prod.mk.injEq]
    split
    · rename_i h; constructor
      · intro h'; exact absurd h' h
      · intro h'; exact absurd (h1.2 h'.1) h
    · rename_i h
      split
      · rename_i k; constructor
        · intro h'; exact absurd h' k
        · intro h'; exact absurd (h2.2 h'.2.1) k
      · rename_i k
        simp only [ne_eq, Decidable.not_not] at h k
        rw [h3]
        exact ⟨fun h' => ⟨h1.1 h, h2.1 k, h'⟩, fun h' => h'.2.2⟩
  · obtain ⟨a1, a2, a3⟩ := a
    obtain ⟨b1, b2, b3⟩ := b
    obtain ⟨c1, c2, c3⟩ := c
    have t1 := I.trans a1 b1 c1
    have t2 := I.trans a2 b2 c2
    have t3 := S.trans a3 b3 c3
    have z1 := I.zero a1 b1
    have z2 := I.zero b1 c1
    have z3 := I.zero a2 b2
    have z4 := I.zero b2 c2
    unfold cmpV orV
    simp only
    intro h1 h2
    by_cases e1 : Lib.compareInt a1 b1 = 0
    · have := z1.1 e1; subst this
      by_cases e2 : Lib.compareInt a1 c1 = 0
      · simp only [e1, e2, ne_eq, not_true_eq_false, if_false] at h1 h2 ⊢
        by_cases e3 : Lib.compareInt a2 b2 = 0
        · have := z3.1 e3; subst this
          by_cases e4 : Lib.compareInt a2 c2 = 0
          · simp only [e3, e4, not_true_eq_false, if_false] at h1 h2 ⊢
            exact t3 h1 h2
          · simp only [e3, e4, not_true_eq_false, not_false_eq_true, if_false, if_true] at h1 h2 ⊢
            exact h2
        · simp only [e3, not_false_eq_true, if_true] at h1
          by_cases e4 : Lib.compareInt b2 c2 = 0
          · have := z4.1 e4; subst this
            simp only [e3, not_false_eq_true, if_true]
            exact h1
          · simp only [e4, not_false_eq_true, if_true] at h2
            rw [t2 h1 h2]; simp
      · simp only [e1, e2, ne_eq, not_true_eq_false, not_false_eq_true, if_false, if_true] at h1 h2 ⊢
        exact h2
    · simp only [e1, ne_eq, not_false_eq_true, if_true] at h1
      by_cases e2 : Lib.compareInt b1 c1 = 0
      · have := z2.1 e2; subst this
        simp only [e1, ne_eq, not_false_eq_true, if_true]
        exact h1
      · simp only [e2, ne_eq, not_false_eq_true, if_true] at h2
        rw [t1 h1 h2]; simp
end Go.Proofs.YtaapeleoiclplaaDoor.V
