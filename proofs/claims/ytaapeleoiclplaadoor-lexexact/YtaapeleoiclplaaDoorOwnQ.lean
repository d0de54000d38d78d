/- Texts near a string's text that say nothing: plain facts on bytes. No program in it. -/
import Derived.Test.YtaapeleoiclplaaDoorOwnP
namespace Go.Proofs.YtaapeleoiclplaaDoor.V

theorem unqIn_app (r q : List UInt8) : unqIn (escL r ++ q) = (unqIn q).map (r ++ ·) := by
  induction r with
  | nil => simp [escL]
  | cons c r ih =>
    simp only [escL]
    cases h : escB c.toNat
    · have h' : ¬ ((c.toNat : Int) = 34 ∨ (c.toNat : Int) = 92) := by simpa [escB] using h
      simp only [Bool.false_eq_true, if_false, List.cons_append]
      rw [unqIn_plain (fun e => h' (Or.inl e)) (fun e => h' (Or.inr e)), ih]
      cases unqIn q <;> simp
    · simp only [if_true, List.cons_append]
      rw [unqIn_esc (by decide) h, ih]
      cases unqIn q <;> simp

theorem dec_digits (u : Nat) : ∀ c ∈ Lib.decDigits u, 48 ≤ c.toNat ∧ c.toNat ≤ 57 := by
  induction u using Nat.strongRecOn with
  | _ u ih =>
    by_cases h10 : u < 10
    · rw [Lib.decDigits, dif_pos h10]
      intro c hc
      rw [List.mem_singleton.1 hc, digit_toNat h10]; omega
    · rw [Lib.decDigits, dif_neg h10]
      intro c hc
      rcases List.mem_append.1 hc with h | h
      · exact ih (u / 10) (by omega) c h
      · rw [List.mem_singleton.1 h, digit_toNat (Nat.mod_lt _ (by decide))]
        have := Nat.mod_lt u (show 0 < 10 by decide)
        omega
theorem itoa_bytes (n : Int) : ∀ c ∈ Lib.itoa n, c.toNat ≠ 34 := by
  unfold Lib.itoa
  intro c hc
  split at hc
  · rcases List.mem_cons.1 hc with h | h
    · subst h; decide
    · have := dec_digits _ c h; omega
  · have := dec_digits _ c hc; omega

/-- What a text that is read looks like. -/
theorem parseL_shape {l : List UInt8} (h : parseL l ≠ none) : (∃ n, l = Lib.itoa n) ∨ symB l = true ∨ ∃ r, strB r = true ∧ l = quoteL r := by
  cases hp : parseL l with
  | none => exact absurd hp h
  | some t =>
    obtain ⟨k, n, r⟩ := t
    obtain ⟨hr, ht⟩ := parseL_back hp
    by_cases k1 : k = 1
    · subst k1
      simp only [textL, if_true] at ht
      exact Or.inl ⟨n, ht.symm⟩
    · by_cases k2 : k = 2
      · subst k2
        simp [rightB] at hr
        simp [textL] at ht
        subst ht
        exact Or.inr (Or.inl hr.2)
      · by_cases k3 : k = 3
        · subst k3
          simp [rightB] at hr
          simp [textL] at ht
          exact Or.inr (Or.inr ⟨r, hr.2, ht.symm⟩)
        · simp [rightB, k1, k2, k3] at hr

theorem parseL_none_34 {l : List UInt8} (h : ∀ r, strB r = true → l ≠ escL r ++ [34]) : parseL (34 :: l) = none := by
  cases hp : parseL (34 :: l) with
  | none => rfl
  | some t =>
    rcases parseL_shape (l := 34 :: l) (by rw [hp]; simp) with ⟨n, e⟩ | e | ⟨r, hr, e⟩
    · exact absurd rfl (itoa_bytes n 34 (by rw [← e]; simp))
    · simp [symB, lowB] at e
    · simp only [quoteL, List.cons.injEq, true_and] at e
      exact absurd e (h r hr)

theorem esc_inj {s q r : List UInt8} (e : escL s ++ q = escL r) : (unqIn q).map (s ++ ·) = some r := by
  rw [← unqIn_app, e, unqIn_escL]

theorem bad0 (s : List UInt8) : parseL (34 :: escL s) = none := parseL_none_34 fun r _ e => by
  have h := unqIn_app r [34]
  rw [← e, unqIn_escL] at h
  simp [unqIn_quote (c := 34) (r := []) (by decide)] at h
theorem bad2 (s : List UInt8) : parseL (34 :: (escL s ++ [92, 34])) = none := parseL_none_34 fun r _ e => by
  have e' : (escL s ++ [92]) ++ [34] = escL r ++ [34] := by rw [← e]; simp
  have h := esc_inj (List.append_cancel_right e')
  simp [unqIn_last (c := 92) (by decide)] at h
theorem bad3 (s : List UInt8) : parseL (34 :: (escL s ++ [92, 97, 34])) = none := parseL_none_34 fun r _ e => by
  have e' : (escL s ++ [92, 97]) ++ [34] = escL r ++ [34] := by rw [← e]; simp
  have h := esc_inj (List.append_cancel_right e')
  simp [unqIn_noesc (c := 92) (d := 97) (r := []) (by decide) (by decide)] at h
theorem bad4 (s : List UInt8) : parseL (34 :: (escL s ++ [1, 34])) = none := parseL_none_34 fun r hr e => by
  have e' : (escL s ++ [1]) ++ [34] = escL r ++ [34] := by rw [← e]; simp
  have h := esc_inj (List.append_cancel_right e')
  rw [unqIn_plain (c := 1) (r := []) (by decide) (by decide)] at h
  simp [unqIn] at h
  subst h
  simp [strB, strC] at hr
theorem bad5 (s : List UInt8) : parseL (34 :: (escL s ++ [34, 34])) = none := parseL_none_34 fun r _ e => by
  have e' : (escL s ++ [34]) ++ [34] = escL r ++ [34] := by rw [← e]; simp
  have h := esc_inj (List.append_cancel_right e')
  simp [unqIn_quote (c := 34) (r := []) (by decide)] at h
theorem bad6 (s : List UInt8) : parseL (34 :: (escL s ++ [34, 32])) = none := parseL_none_34 fun r _ e => by
  have e' : (escL s ++ [34]) ++ [32] = escL r ++ [34] := by rw [← e]; simp
  have h := (List.append_inj' e' rfl).2
  simp at h
theorem escL_head (s : List UInt8) : ∀ c q, escL s = c :: q → c.toNat ≠ 34 := by
  intro c q e
  cases s with
  | nil => simp [escL] at e
  | cons a r =>
    simp only [escL] at e
    split at e
    · simp only [List.cons.injEq] at e; rw [← e.1]; decide
    · rename_i h
      simp only [List.cons.injEq] at e
      rw [← e.1]
      intro h34
      exact h (escB_t (Or.inl (by omega)))
theorem bad1 (s : List UInt8) : parseL (escL s ++ [34]) = none := by
  cases hp : parseL (escL s ++ [34]) with
  | none => rfl
  | some t =>
    rcases parseL_shape (l := escL s ++ [34]) (by rw [hp]; simp) with ⟨n, e⟩ | e | ⟨r, _, e⟩
    · exact absurd rfl (itoa_bytes n 34 (by rw [← e]; simp))
    · cases he : escL s with
      | nil => rw [he] at e; simp [symB, lowB] at e
      | cons c q =>
        rw [he] at e
        simp [symB, innB, lowB, upB, digB] at e
    · cases he : escL s with
      | nil => rw [he] at e; simp [quoteL] at e
      | cons c q =>
        rw [he] at e
        simp only [quoteL, List.cons_append, List.cons.injEq] at e
        have := escL_head s c q he
        rw [e.1] at this
        exact absurd rfl this
end Go.Proofs.YtaapeleoiclplaaDoor.V
