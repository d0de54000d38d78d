/- Where a part of an expression begins, and that parts nest, in plain words. No program in it. -/
import Derived.Test.YtakhcifhfbiopaaExpP
namespace Go.Proofs.Ytakhcifhfbiopaa.V

/-- How many there are behind the first j steps. -/
def dep (l : List Oo) (j : Nat) : Nat := (runD 0 (l.take j)).getD 0
theorem run_take {l : List Oo} {n m : Nat} (h : runD n l = some m) (j : Nat) : ∃ d, runD n (l.take j) = some d := by
  have e := run_app (l.take j) (l.drop j) n
  rw [List.take_append_drop, h] at e
  cases hd : runD n (l.take j) with
  | none => rw [hd] at e; simp at e
  | some d => exact ⟨d, rfl⟩
section
variable {l : List Oo} (h : runD 0 l = some 1)
include h
theorem dep_run (j : Nat) : runD 0 (l.take j) = some (dep l j) := by
  obtain ⟨d, hd⟩ := run_take h j
  rw [dep, hd]; rfl
theorem dep_step {j : Nat} (hj : j < l.length) : (pushO l[j] = true ∧ dep l (j + 1) = dep l j + 1) ∨ (pushO l[j] = false ∧ 2 ≤ dep l j ∧ dep l (j + 1) + 1 = dep l j) := by
  have h1 := dep_run h (j + 1)
  rw [List.take_succ_eq_append_getElem hj, run_app, dep_run h j, Option.bind_some] at h1
  simp only [runD, stepD] at h1
  cases hp : pushO l[j] with
  | true =>
    rw [hp] at h1
    simp only [if_true, Option.bind_some, Option.some.injEq] at h1
    exact Or.inl ⟨rfl, h1.symm⟩
  | false =>
    rw [hp] at h1
    simp only [Bool.false_eq_true, if_false] at h1
    split at h1
    · rename_i h2
      simp only [Option.bind_some, Option.some.injEq] at h1
      exact Or.inr ⟨rfl, h2, by omega⟩
    · simp at h1
omit h in
theorem dep_zero : dep l 0 = 0 := rfl
theorem dep_pos {j : Nat} (hj : j < l.length) : 1 ≤ dep l (j + 1) := by
  rcases dep_step h hj with ⟨_, e⟩ | ⟨_, e1, e2⟩ <;> omega

/-- From a step on ahead, till one is left. -/
def scan (l : List Oo) : Nat → Nat → Int
  | _, 0 => -1
  | need, i + 1 => if (l[i]?.map pushO) = some true then (if need = 1 then (i : Int) else scan l (need - 1) i) else scan l (need + 1) i
def partL (l : List Oo) (e : Nat) : Int := scan l 1 (e + 1)
theorem scan_spec {e : Nat} (he : e < l.length) : ∀ (i need : Nat), i ≤ e + 1 → need + dep l (e + 1) = dep l i + 1 → 1 ≤ need → (∀ j, i ≤ j → j ≤ e → dep l (e + 1) ≤ dep l j) → ∃ a : Nat, scan l need i = a ∧ a < i ∧ dep l a + 1 = dep l (e + 1) ∧ ∀ j, a < j → j ≤ e → dep l (e + 1) ≤ dep l j
  | 0, need, _, hn, h1, _ => by
    have := dep_pos h he
    rw [dep_zero] at hn
    omega
  | i + 1, need, hi, hn, h1, hm => by
    have hil : i < l.length := by omega
    rw [scan]
    rcases dep_step h hil with ⟨hp, e1⟩ | ⟨hp, e1, e2⟩
    · rw [if_pos (by simp [hil, hp])]
      by_cases hn1 : need = 1
      · rw [if_pos hn1]
        exact ⟨i, rfl, by omega, by omega, fun j hj hje => hm j (by omega) hje⟩
      · rw [if_neg hn1]
        obtain ⟨a, ha, hlt, hd, hr⟩ := scan_spec he i (need - 1) (by omega) (by omega) (by omega) (fun j hj hje => by
          by_cases hji : j = i
          · subst hji; omega
          · exact hm j (by omega) hje)
        exact ⟨a, ha, by omega, hd, hr⟩
    · rw [if_neg (by simp [hil, hp])]
      obtain ⟨a, ha, hlt, hd, hr⟩ := scan_spec he i (need + 1) (by omega) (by omega) (by omega) (fun j hj hje => by
        by_cases hji : j = i
        · subst hji; omega
        · exact hm j (by omega) hje)
      exact ⟨a, ha, by omega, hd, hr⟩
/-- Where a part begins: the last place ahead of its end where there was one less. -/
theorem part_spec {e : Nat} (he : e < l.length) : ∃ a : Nat, partL l e = a ∧ a ≤ e ∧ dep l a + 1 = dep l (e + 1) ∧ ∀ j, a < j → j ≤ e → dep l (e + 1) ≤ dep l j := by
  obtain ⟨a, h1, h2, h3, h4⟩ := scan_spec h he (e + 1) 1 (Nat.le_refl _) (by omega) (Nat.le_refl _) (fun j h1 h2 => by omega)
  exact ⟨a, h1, by omega, h3, h4⟩
omit h in
theorem part_only {e a c : Nat} (ha : a ≤ e) (hc : c ≤ e) (h1 : dep l a + 1 = dep l (e + 1)) (h2 : ∀ j, a < j → j ≤ e → dep l (e + 1) ≤ dep l j) (h3 : dep l c + 1 = dep l (e + 1)) (h4 : ∀ j, c < j → j ≤ e → dep l (e + 1) ≤ dep l j) : a = c := by
  by_cases hac : a < c
  · have := h2 c hac hc; omega
  · by_cases hca : c < a
    · have := h4 a hca ha; omega
    · omega
/-- It is the step itself just where that pushes. -/
theorem part_self {e : Nat} (he : e < l.length) : partL l e = e ↔ pushO l[e] = true := by
  obtain ⟨a, h1, h2, h3, h4⟩ := part_spec h he
  rw [h1]
  rcases dep_step h he with ⟨hp, e1⟩ | ⟨hp, e1, e2⟩
  · have := part_only (l := l) h2 (Nat.le_refl e) h3 h4 (by omega) (fun j hj hje => by omega)
    simp [hp, this]
  · rw [hp]
    have : a ≠ e := by
      intro hae
      subst hae
      omega
    simp; omega
/-- A part's own steps, step by step. -/
theorem slice_run {e a : Nat} (he : e < l.length) (hae : a ≤ e) (hm : ∀ j, a < j → j ≤ e + 1 → dep l a + 1 ≤ dep l j) : ∀ k, a + k ≤ e + 1 → runD 0 ((l.drop a).take k) = some (dep l (a + k) - dep l a)
  | 0, _ => by simp [runD]
  | k + 1, hk => by
    have ih := slice_run he hae hm k (by omega)
    have hal : k < (l.drop a).length := by simp; omega
    rw [List.take_succ_eq_append_getElem hal, run_app, ih, Option.bind_some]
    have hg : (l.drop a)[k] = l[a + k]'(by omega) := by simp
    rw [hg]
    simp only [runD, stepD]
    have hak : dep l a ≤ dep l (a + k) := by
      by_cases h0 : k = 0
      · subst h0; exact Nat.le_refl _
      · have := hm (a + k) (by omega) (by omega); omega
    rcases dep_step h (show a + k < l.length by omega) with ⟨hp, e1⟩ | ⟨hp, e1, e2⟩
    · rw [hp]
      simp only [if_true, Option.bind_some, Option.some.injEq]
      rw [show a + (k + 1) = a + k + 1 by omega, e1]; omega
    · have h2 := hm (a + k + 1) (by omega) (by omega)
      rw [hp]
      simp only [Bool.false_eq_true, if_false]
      rw [if_pos (by omega)]
      simp only [Option.bind_some, Option.some.injEq]
      rw [show a + (k + 1) = a + k + 1 by omega]; omega
end
/-- A part is an expression. -/
theorem part_right {l : List Oo} (hl : exprB l = true) {e : Nat} (he : e < l.length) : ∃ a : Nat, partL l e = a ∧ a ≤ e ∧ exprB ((l.drop a).take (e + 1 - a)) = true := by
  obtain ⟨⟨h1, h15⟩, hr, h⟩ := expr_iff.1 hl
  obtain ⟨a, p1, p2, p3, p4⟩ := part_spec h he
  refine ⟨a, p1, p2, expr_iff.2 ⟨⟨by simp; omega, by simp; omega⟩, fun o ho => hr o (List.mem_of_mem_drop (List.mem_of_mem_take ho)), ?_⟩⟩
  have := slice_run h he p2 (fun j hj hje => by
    by_cases hj1 : j = e + 1
    · subst hj1; omega
    · have := p4 j hj (by omega); omega) (e + 1 - a) (by omega)
  rw [this, show a + (e + 1 - a) = e + 1 by omega]
  congr 1
  omega
/-- What a step is done to: two parts, side by side. -/
theorem part_two {l : List Oo} (h : runD 0 l = some 1) {e : Nat} (he : e < l.length) (hp : pushO l[e] = false) : ∃ a b : Nat, partL l e = a ∧ 1 ≤ e ∧ partL l (e - 1) = b ∧ a < b ∧ partL l (b - 1) = a := by
  obtain ⟨a, a1, a2, a3, a4⟩ := part_spec h he
  rcases dep_step h he with ⟨hq, _⟩ | ⟨_, e1, e2⟩
  · rw [hp] at hq; cases hq
  have he1 : 1 ≤ e := by
    rcases Nat.eq_zero_or_pos e with h0 | h0
    · subst h0; rw [dep_zero] at e1; omega
    · exact h0
  obtain ⟨b, b1, b2, b3, b4⟩ := part_spec h (show e - 1 < l.length by omega)
  rw [show e - 1 + 1 = e by omega] at b3 b4
  have hb0 : 1 ≤ b := by
    rcases Nat.eq_zero_or_pos b with h0 | h0
    · subst h0; rw [dep_zero] at b3; omega
    · exact h0
  obtain ⟨c, c1, c2, c3, c4⟩ := part_spec h (show b - 1 < l.length by omega)
  rw [show b - 1 + 1 = b by omega] at c3 c4
  have hac : a = c := part_only (l := l) a2 (by omega) a3 a4 (by omega) (fun j hj hje => by
    by_cases hjb : j < b
    · have := c4 j hj (by omega); omega
    · by_cases hjb2 : j = b
      · subst hjb2; omega
      · by_cases hje2 : j = e
        · subst hje2; omega
        · have := b4 j (by omega) (by omega); omega)
  subst hac
  exact ⟨a, b, a1, he1, b1, by omega, c1⟩
end Go.Proofs.Ytakhcifhfbiopaa.V
