/- The places where the values of a stack began, in plain words. No program in it. -/
import Derived.Test.YtnomndpoklolfaaExpQ
namespace Go.Proofs.Ytnomndpoklolfaa.V

/-- For each value behind the first k steps: where the part begins that left it. -/
def Firsts (l : List Oo) (k : Nat) (f : List Nat) : Prop :=
  f.length = dep l k ∧ ∀ (i : Nat) (a : Nat), f[i]? = some a → a < k ∧ dep l a = i ∧ ∀ j, a < j → j ≤ k → i + 1 ≤ dep l j
theorem firsts_zero (l : List Oo) : Firsts l 0 [] := ⟨by simp [dep_zero], fun i a h => by simp at h⟩
section
variable {l : List Oo} (h : runD 0 l = some 1)
include h
theorem firsts_push {k : Nat} {f : List Nat} (hk : k < l.length) (hf : Firsts l k f) (hp : pushO l[k] = true) : Firsts l (k + 1) (f ++ [k]) := by
  rcases dep_step h hk with ⟨_, e⟩ | ⟨hq, _⟩
  · refine ⟨by simp [hf.1, e], fun i a hi => ?_⟩
    by_cases hl : i < f.length
    · rw [List.getElem?_append_left hl] at hi
      obtain ⟨h1, h2, h3⟩ := hf.2 i a hi
      refine ⟨by omega, h2, fun j hj hjk => ?_⟩
      by_cases hjk' : j ≤ k
      · exact h3 j hj hjk'
      · have : j = k + 1 := by omega
        subst this
        have := hf.1
        omega
    · have hi' := (List.getElem?_eq_some_iff.1 hi).1
      simp at hi'
      have he : i = f.length := by omega
      subst he
      simp at hi
      subst hi
      refine ⟨by omega, hf.1.symm, fun j hj hjk => ?_⟩
      have : j = k + 1 := by omega
      subst this
      have := hf.1
      omega
  · rw [hp] at hq; cases hq
theorem firsts_take {k : Nat} {f : List Nat} (hk : k < l.length) (hf : Firsts l k f) (hp : pushO l[k] = false) : 2 ≤ f.length ∧ Firsts l (k + 1) (f.take (f.length - 1)) := by
  rcases dep_step h hk with ⟨hq, _⟩ | ⟨_, e1, e2⟩
  · rw [hp] at hq; cases hq
  · have hl := hf.1
    refine ⟨by omega, ⟨by simp; omega, fun i a hi => ?_⟩⟩
    have hi' := (List.getElem?_eq_some_iff.1 hi).1
    simp at hi'
    rw [List.getElem?_take_of_lt (by omega)] at hi
    obtain ⟨h1, h2, h3⟩ := hf.2 i a hi
    refine ⟨by omega, h2, fun j hj hjk => ?_⟩
    by_cases hjk' : j ≤ k
    · exact h3 j hj hjk'
    · have : j = k + 1 := by omega
      subst this
      omega
theorem firsts_last {e : Nat} {f : List Nat} (he : e < l.length) (hf : Firsts l (e + 1) f) : ∃ a, f[f.length - 1]? = some a ∧ 1 ≤ f.length ∧ partL l e = a := by
  have hd := dep_pos h he
  have hl := hf.1
  obtain ⟨a, ha⟩ : ∃ a, f[f.length - 1]? = some a := ⟨f[f.length - 1]'(by omega), by simp⟩
  obtain ⟨h1, h2, h3⟩ := hf.2 _ a ha
  obtain ⟨c, c1, c2, c3, c4⟩ := part_spec h he
  refine ⟨a, ha, by omega, ?_⟩
  rw [c1, part_only (l := l) c2 (show a ≤ e by omega) c3 c4 (by omega) (fun j hj hje => by have := h3 j hj (by omega); omega)]
end
/-- From a step on ahead, till one is left: one step of that. -/
theorem scan_push {l : List Oo} {need i : Nat} (hi : i < l.length) (hp : pushO l[i] = true) : scan l need (i + 1) = if need = 1 then (i : Int) else scan l (need - 1) i := by
  rw [scan, if_pos (by simp [hi, hp])]
theorem scan_op {l : List Oo} {need i : Nat} (hi : i < l.length) (hp : pushO l[i] = false) : scan l need (i + 1) = scan l (need + 1) i := by
  rw [scan, if_neg (by simp [hi, hp])]
end Go.Proofs.Ytnomndpoklolfaa.V
