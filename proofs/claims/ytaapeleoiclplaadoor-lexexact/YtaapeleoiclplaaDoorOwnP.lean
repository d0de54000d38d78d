/- What is written is read, and what is read is written as it stood: plain facts on bytes. No program in it. -/
import Derived.Test.YtaapeleoiclplaaDoorOwnM
import Derived.Lib.ItoaLen
namespace Go.Proofs.YtaapeleoiclplaaDoor.V

theorem parseUint10_append {l r : List UInt8} {acc v : Nat} (h : Lib.parseUint10 acc l = .ok v) : Lib.parseUint10 acc (l ++ r) = Lib.parseUint10 v r := by
  induction l generalizing acc with
  | nil =>
    simp only [Lib.parseUint10] at h
    injection h with h
    subst h; rfl
  | cons c q ih =>
    simp only [Lib.parseUint10] at h
    simp only [List.cons_append, Lib.parseUint10]
    split at h
    · split at h
      · cases h
      · split at h
        · cases h
        · rename_i h1 h2 h3
          rw [if_pos h1, if_neg h2, if_neg h3]
          exact ih h
    · cases h

theorem digit_toNat {d : Nat} (h : d < 10) : (UInt8.ofNat (48 + d)).toNat = 48 + d := by
  rw [UInt8.toNat_ofNat']; omega

theorem parseUint10_dec (u : Nat) (h : u < 18446744073709551616) : Lib.parseUint10 0 (Lib.decDigits u) = .ok u := by
  induction u using Nat.strongRecOn with
  | _ u ih =>
    by_cases h10 : u < 10
    · rw [Lib.decDigits, dif_pos h10]
      simp only [Lib.parseUint10, digit_toNat h10]
      rw [if_pos (by omega), if_neg (by omega), if_neg (by omega)]
      congr 1; omega
    · rw [Lib.decDigits, dif_neg h10, parseUint10_append (ih (u / 10) (by omega) (by omega))]
      have hd : u % 10 < 10 := Nat.mod_lt _ (by decide)
      simp only [Lib.parseUint10, digit_toNat hd]
      rw [if_pos (by omega), if_neg (by omega), if_neg (by omega)]
      congr 1; omega

theorem dec_cons (u : Nat) : ∃ c r, Lib.decDigits u = c :: r ∧ 48 ≤ c.toNat ∧ c.toNat ≤ 57 := by
  induction u using Nat.strongRecOn with
  | _ u ih =>
    by_cases h10 : u < 10
    · rw [Lib.decDigits, dif_pos h10]
      exact ⟨_, [], rfl, by rw [digit_toNat h10]; omega, by rw [digit_toNat h10]; omega⟩
    · obtain ⟨c, r, h1, h2, h3⟩ := ih (u / 10) (by omega)
      rw [Lib.decDigits, dif_neg h10, h1]
      exact ⟨c, _, rfl, h2, h3⟩

theorem parseMag_dec (u : Nat) (h : u < 18446744073709551616) : Lib.parseMag (Lib.decDigits u) = .ok u := by
  obtain ⟨c, r, h1, _, _⟩ := dec_cons u
  unfold Lib.parseMag
  rw [if_neg (by rw [h1]; simp)]
  exact parseUint10_dec u h

theorem atoi_itoa (n : Int) (h0 : -4611686018427387904 ≤ n) (h1 : n ≤ 4611686018427387904) : Lib.atoiAll (Lib.itoa n) = .ok n := by
  unfold Lib.itoa
  by_cases hn : n < 0
  · rw [if_pos hn, Lib.atoiAll_minus, parseMag_dec _ (by omega)]
    simp only [Lib.signed]
    rw [if_neg (by omega)]
    congr 1; omega
  · rw [if_neg hn]
    obtain ⟨c, r, h2, h3, h4⟩ := dec_cons n.toNat
    have hm := parseMag_dec n.toNat (by omega)
    rw [h2] at hm ⊢
    rw [Lib.atoiAll_plain c r (by omega) (by omega), hm]
    simp only [Lib.signless]
    rw [if_neg (by omega)]
    congr 1; omega

theorem itoa_head (n : Int) : ∃ c r, Lib.itoa n = c :: r ∧ c.toNat ≠ 34 ∧ (c.toNat = 45 ∨ digB c.toNat = true) := by
  unfold Lib.itoa
  by_cases hn : n < 0
  · rw [if_pos hn]; exact ⟨45, _, rfl, by decide, Or.inl rfl⟩
  · rw [if_neg hn]
    obtain ⟨c, r, h2, h3, h4⟩ := dec_cons n.toNat
    rw [h2]
    exact ⟨c, r, rfl, by omega, Or.inr (digB_t (by omega) (by omega))⟩

theorem numL_itoa (n : Int) (h0 : -4611686018427387904 ≤ n) (h1 : n ≤ 4611686018427387904) : numL (Lib.itoa n) = some n := by
  unfold numL; rw [atoi_itoa n h0 h1]; simp

theorem unqIn_escL (l : List UInt8) : unqIn (escL l) = some l := by
  induction l with
  | nil => rfl
  | cons c r ih =>
    simp only [escL]
    cases h : escB c.toNat
    · have h' : ¬ ((c.toNat : Int) = 34 ∨ (c.toNat : Int) = 92) := by simpa [escB] using h
      simp only [Bool.false_eq_true, if_false]
      rw [unqIn_plain (fun e => h' (Or.inl e)) (fun e => h' (Or.inr e)), ih]; rfl
    · simp only [if_true]
      rw [unqIn_esc (by decide) h, ih]; rfl

theorem escL_unqIn (m r : List UInt8) (h : unqIn m = some r) : escL r = m := by
  match m, h with
  | [], h => simp [unqIn] at h; subst h; rfl
  | c :: q, h =>
    by_cases h34 : (c.toNat : Int) = 34
    · rw [unqIn_quote h34] at h; cases h
    · by_cases h92 : (c.toNat : Int) = 92
      · match q, h with
        | [], h => rw [unqIn_last h92] at h; cases h
        | d :: q', h =>
          cases hd : escB d.toNat
          · rw [unqIn_noesc h92 hd] at h; cases h
          · rw [unqIn_esc h92 hd] at h
            obtain ⟨r', hr', rfl⟩ := Option.map_eq_some_iff.1 h
            have hc : c = 92 := UInt8.toNat_inj.1 (by show c.toNat = 92; omega)
            simp only [escL, hd, if_true, hc, escL_unqIn q' r' hr']
      · rw [unqIn_plain h34 h92] at h
        obtain ⟨r', hr', rfl⟩ := Option.map_eq_some_iff.1 h
        have hd : escB c.toNat = false := escB_f (by omega)
        simp only [escL, hd, Bool.false_eq_true, if_false, escL_unqIn q r' hr']

theorem unqL_quoteL (l : List UInt8) : unqL (quoteL l) = some l := by
  have hl : (quoteL l).length = (escL l).length + 2 := by simp [quoteL]
  unfold unqL
  rw [if_neg (by omega), if_neg (by simp [quoteL]), if_neg]
  · rw [← unqIn_escL l]
    congr 1
    rw [hl]
    simp [quoteL]
  · rw [hl]
    simp [quoteL]

theorem quote_shape {l : List UInt8} (h2 : ¬ l.length < 2) (h0 : (l[0]?.getD 0).toNat = 34) (h1 : (l[l.length - 1]?.getD 0).toNat = 34) : l = 34 :: ((l.take (l.length - 1)).drop 1 ++ [34]) := by
  match l, h2 with
  | [], h2 => simp at h2
  | [a], h2 => simp at h2
  | a :: b :: q, _ =>
    have ha : a = 34 := UInt8.toNat_inj.1 (by simpa using h0)
    subst ha
    congr 1
    have hn : (b :: q) ≠ [] := by simp
    have hlast : (b :: q).getLast hn = 34 := by
      apply UInt8.toNat_inj.1
      rw [List.getLast_eq_getElem]
      have : ((34 : UInt8) :: b :: q)[((34 : UInt8) :: b :: q).length - 1]? = some ((b :: q)[(b :: q).length - 1]) := by simp
      rw [this] at h1
      exact h1
    have e := List.dropLast_concat_getLast hn
    rw [hlast] at e
    rw [← e]
    simp [List.dropLast_eq_take]

theorem quoteL_unqL {l r : List UInt8} (h : unqL l = some r) : quoteL r = l := by
  unfold unqL at h
  split at h
  · cases h
  · split at h
    · cases h
    · split at h
      · cases h
      · rename_i a b c
        simp only [ne_eq, Decidable.not_not] at b c
        have e := escL_unqIn _ _ h
        unfold quoteL
        rw [e]
        exact (quote_shape a b c).symm

/-- What is read is right, and is written as it stood. -/
theorem parseL_back {l r : List UInt8} {k n : Int} (h : parseL l = some (k, n, r)) : rightB k n r = true ∧ textL k n r = l := by
  unfold parseL at h
  cases hv : valL l with
  | none => rw [hv] at h; simp at h
  | some t =>
    obtain ⟨k', n', r'⟩ := t
    rw [hv] at h
    simp only at h
    cases hr : rightB k' n' r' with
    | false => rw [hr] at h; simp at h
    | true =>
      rw [hr] at h
      simp only [if_true, Option.some.injEq, Prod.mk.injEq] at h
      obtain ⟨rfl, rfl, rfl⟩ := h
      refine ⟨hr, ?_⟩
      unfold valL at hv
      split at hv
      · cases hv
      · split at hv
        · cases hv
        · split at hv
          · obtain ⟨q, hq, hx⟩ := Option.map_eq_some_iff.1 hv
            simp only [Prod.mk.injEq] at hx
            obtain ⟨rfl, rfl, rfl⟩ := hx
            simp only [textL]
            exact quoteL_unqL hq
          · split at hv
            · obtain ⟨q, hq, hx⟩ := Option.map_eq_some_iff.1 hv
              simp only [Prod.mk.injEq] at hx
              obtain ⟨rfl, rfl, rfl⟩ := hx
              simp only [textL, if_true]
              unfold numL at hq
              split at hq
              · split at hq
                · rename_i e; simp at hq; rw [← hq]; exact e
                · cases hq
              · cases hq
            · simp only [Option.some.injEq, Prod.mk.injEq] at hv
              obtain ⟨rfl, rfl, rfl⟩ := hv
              simp [textL]

/-- What is written is read. -/
theorem parseL_text {r : List UInt8} {k n : Int} (h : rightB k n r = true) : parseL (textL k n r) = some (k, n, r) := by
  have hv : valL (textL k n r) = some (k, n, r) := by
    by_cases k1 : k = 1
    · subst k1
      have hb : r = [] ∧ -4611686018427387904 ≤ n ∧ n ≤ 4611686018427387904 := by simpa [rightB] using h
      obtain ⟨rfl, n0, n1⟩ := hb
      simp only [textL, if_true]
      have hlen := Lib.itoa_length_le n (by omega) (by omega)
      obtain ⟨c, q, e, e1, e2⟩ := itoa_head n
      have hnum := numL_itoa n n0 n1
      rw [e] at hnum hlen ⊢
      unfold valL
      rw [if_neg (by simp), if_neg (by omega), if_neg (by simpa using e1), if_pos (by simpa using e2), hnum]; rfl
    · by_cases k2 : k = 2
      · subst k2
        have hb : n = 0 ∧ symB r = true := by simpa [rightB] using h
        obtain ⟨rfl, hs⟩ := hb
        have et : textL 2 0 r = r := by simp [textL]
        rw [et]
        cases r with
        | nil => simp [symB] at hs
        | cons c q =>
          simp only [symB, Bool.and_eq_true, decide_eq_true_eq] at hs
          obtain ⟨h1, h2, _⟩ := hs
          have hlo : 97 ≤ (c.toNat : Int) ∧ (c.toNat : Int) ≤ 122 := by simpa [lowB] using h2
          unfold valL
          rw [if_neg (by simp), if_neg (by simp; omega), if_neg (by simp; omega), if_neg]
          simp [digB]; omega
      · by_cases k3 : k = 3
        · subst k3
          have hb : n = 0 ∧ strB r = true := by simpa [rightB] using h
          obtain ⟨rfl, hs⟩ := hb
          have et : textL 3 0 r = quoteL r := by simp [textL]
          rw [et]
          simp only [strB, Bool.and_eq_true, decide_eq_true_eq] at hs
          have hl := escL_length r
          have hq : (quoteL r).length = (escL r).length + 2 := by simp [quoteL]
          unfold valL
          rw [if_neg (by omega), if_neg (by omega), if_pos (by simp [quoteL]), unqL_quoteL]; rfl
        · simp [rightB, k1, k2, k3] at h
  unfold parseL
  rw [hv]; simp [h]
end Go.Proofs.YtaapeleoiclplaaDoor.V
