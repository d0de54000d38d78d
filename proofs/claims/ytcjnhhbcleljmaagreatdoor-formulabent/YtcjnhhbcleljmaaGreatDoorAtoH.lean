/- What is read of an atom is right but for how many terms there are; of an expression, how many steps. No program in it. -/
import Derived.Test.YtcjnhhbcleljmaaGreatDoorAtoI
namespace Go.Proofs.YtcjnhhbcleljmaaGreatDoor.V

theorem readTs_len : ∀ (m : Nat) {ts : List Kt} {p : Nat} {x : List Bb × Nat}, ts.length ≤ m → readTs ts p = .ok x → x.1.length ≤ ts.length := by
  intro m
  induction m with
  | zero =>
    intro ts p x hm h
    have : ts = [] := List.eq_nil_of_length_eq_zero (by omega)
    subst this
    cases h
  | succ m ih =>
    intro ts p x hm h
    cases ts with
    | nil => cases h
    | cons t r =>
      rw [readTs_cons] at h
      cases ht : termR t with
      | none => rw [ht] at h; cases h
      | some v =>
        rw [ht] at h
        cases r with
        | nil => cases h
        | cons c r' =>
          simp only at h
          split at h
          · cases hr : readTs r' (p + 2) with
            | error e => rw [hr] at h; cases h
            | ok y =>
              rw [hr] at h
              cases h
              have := ih (by simp at hm; omega) hr
              simp only [List.length_cons]
              omega
          · split at h
            · cases h; simp
            · cases h
theorem readAt_right {ks : List Kt} {p : Nat} {x : At × Nat} (hr : readAt (ks.drop p) p = .ok x) : nameB x.1.1 = true ∧ (∀ t ∈ x.1.2, rightT t = true) ∧ x.1.2.length ≤ ks.length ∧ x.2 ≤ ks.length := by
  unfold readAt at hr
  cases hd : ks.drop p with
  | nil => rw [hd] at hr; cases hr
  | cons t r =>
    have hlen : (t :: r).length = ks.length - p := by rw [← hd]; simp
    rw [hd] at hr
    simp only at hr
    split at hr
    case isFalse => cases hr
    rename_i hn
    cases r with
    | nil =>
      cases hr
      exact ⟨hn.2, (fun t ht => by cases ht), by simp, by simp at hlen; simp only; omega⟩
    | cons c r' =>
      simp only at hr
      split at hr
      · cases hq : readTs r' (p + 2) with
        | error e => rw [hq] at hr; cases hr
        | ok y =>
          rw [hq] at hr
          cases hr
          obtain ⟨i1, i2, i3, i4⟩ := readTs_right _ (Nat.le_refl _) hq
          have i5 := readTs_len _ (Nat.le_refl _) hq
          refine ⟨hn.2, i1, ?_, ?_⟩
          · simp at hlen; simp only; omega
          · simp at hlen; simp only; omega
      · cases hr
        exact ⟨hn.2, (fun t ht => by cases ht), by simp, by simp at hlen; simp only; omega⟩
theorem readA_few {ks : List Kt} {p : Nat} {x : At × Nat} (h : readAt (ks.drop p) p = .ok x) (h5 : x.1.2.length ≤ 5) : readA ks p = .ok x := by
  unfold readA; rw [h]; simp only; rw [if_pos h5]
theorem readA_many {ks : List Kt} {p : Nat} {x : At × Nat} (h : readAt (ks.drop p) p = .ok x) (h5 : ¬ x.1.2.length ≤ 5) : readA ks p = .error p := by
  unfold readA; rw [h]; simp only; rw [if_neg h5]
theorem readA_none {ks : List Kt} {p e : Nat} (h : readAt (ks.drop p) p = .error e) : readA ks p = .error e := by
  unfold readA; rw [h]
theorem readX_whole {m : Nat} {ks : List Kt} {p : Nat} {a : List Oo × List Kt × Nat} (h : readX m ks p = .ok a) : exprB a.1 = decide (a.1.length ≤ 15) ∧ ∀ o ∈ a.1, rightO o = true := by
  obtain ⟨⟨h2, h1⟩, _⟩ := readX_right m h
  refine ⟨?_, h1⟩
  by_cases h15 : a.1.length ≤ 15
  · rw [decide_eq_true h15]
    exact expr_iff.2 ⟨⟨runD_pos h2, h15⟩, h1, h2⟩
  · rw [decide_eq_false h15, Bool.eq_false_iff]
    intro he
    exact h15 (expr_iff.1 he).1.2
theorem readE_few {ks : List Kt} {p : Nat} {l : List Oo} {rest : List Kt} {q : Nat} (h : readX 15 (ks.drop p) p = .ok (l, rest, q)) (h5 : l.length ≤ 15) : readE ks p = .ok (l, q) := by
  unfold readE; rw [h]; simp only; rw [if_pos h5]
theorem readE_many {ks : List Kt} {p : Nat} {l : List Oo} {rest : List Kt} {q : Nat} (h : readX 15 (ks.drop p) p = .ok (l, rest, q)) (h5 : ¬ l.length ≤ 15) : readE ks p = .error p := by
  unfold readE; rw [h]; simp only; rw [if_neg h5]
theorem readE_deep {ks : List Kt} {p : Nat} (h : readX 15 (ks.drop p) p = .error none) : readE ks p = .error p := by
  unfold readE; rw [h]
theorem readE_none {ks : List Kt} {p e : Nat} (h : readX 15 (ks.drop p) p = .error (some e)) : readE ks p = .error e := by
  unfold readE; rw [h]
theorem parseA_err {l : List UInt8} {us : List Tk} {e : Nat} (h : lexA rightK l 0 = .ok us) (hr : readA (us.map kt) 0 = .error e) : parseA l = none := by
  unfold parseA; rw [h]; simp only; rw [hr]
theorem parseA_short {l : List UInt8} {us : List Tk} {x : At × Nat} (h : lexA rightK l 0 = .ok us) (hr : readA (us.map kt) 0 = .ok x) (hn : x.2 ≠ us.length) : parseA l = none := by
  unfold parseA; rw [h]; simp only; rw [hr]; simp only; rw [if_neg hn]
theorem parseA_all {l : List UInt8} {us : List Tk} {x : At × Nat} (h : lexA rightK l 0 = .ok us) (hr : readA (us.map kt) 0 = .ok x) (hn : x.2 = us.length) : parseA l = some x.1 := by
  unfold parseA; rw [h]; simp only; rw [hr]; simp only; rw [if_pos hn]
end Go.Proofs.YtcjnhhbcleljmaaGreatDoor.V
