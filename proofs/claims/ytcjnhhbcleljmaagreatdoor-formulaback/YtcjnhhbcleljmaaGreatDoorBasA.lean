/- Joined: OwnO OwnP OwnQ FactP SetP SubP. -/
import Derived.Test.YtcjnhhbcleljmaaGreatDoorOwnM
import Derived.Lib.ItoaLen
namespace Go.Proofs.YtcjnhhbcleljmaaGreatDoor.V

theorem cI_lt {x y : Int} (h : x < y) : Lib.compareInt x y = -1 := by simp [Lib.compareInt, h]
theorem cI_gt {x y : Int} (h : y < x) : Lib.compareInt x y = 1 := by simp [Lib.compareInt, h]; omega
theorem cI_eq (x : Int) : Lib.compareInt x x = 0 := by simp [Lib.compareInt]

/-- One order: of two one is ahead, or they are the same; what is ahead of what is ahead is ahead. -/
structure Ord3 {α : Type} (f : α → α → Int) : Prop where
  tri : ∀ a b, f a b = -1 ∨ f a b = 0 ∨ f a b = 1
  anti : ∀ a b, f b a = - f a b
  zero : ∀ a b, f a b = 0 ↔ a = b
  trans : ∀ a b c, f a b = -1 → f b c = -1 → f a c = -1

theorem ord_int : Ord3 Lib.compareInt := by
  refine ⟨fun a b => ?_, fun a b => ?_, fun a b => ?_, fun a b c => ?_⟩
  · rcases Int.lt_trichotomy a b with h | h | h
    · exact Or.inl (cI_lt h)
    · subst h; exact Or.inr (Or.inl (cI_eq _))
    · exact Or.inr (Or.inr (cI_gt h))
  · rcases Int.lt_trichotomy a b with h | h | h
    · rw [cI_lt h, cI_gt h]; rfl
    · subst h; rw [cI_eq]; rfl
    · rw [cI_lt h, cI_gt h]
  · rcases Int.lt_trichotomy a b with h | h | h
    · rw [cI_lt h]; constructor <;> intro h' <;> omega
    · subst h; simp [cI_eq]
    · rw [cI_gt h]; constructor <;> intro h' <;> omega
  · intro h1 h2
    have a1 : a < b := by
      rcases Int.lt_trichotomy a b with h | h | h
      · exact h
      · subst h; rw [cI_eq] at h1; omega
      · rw [cI_gt h] at h1; omega
    have a2 : b < c := by
      rcases Int.lt_trichotomy b c with h | h | h
      · exact h
      · subst h; rw [cI_eq] at h2; omega
      · rw [cI_gt h] at h2; omega
    exact cI_lt (by omega)

theorem u8_tri (a b : UInt8) : a < b ∨ a = b ∨ b < a := by
  rcases Nat.lt_trichotomy a.toNat b.toNat with h | h | h
  · exact Or.inl (UInt8.lt_iff_toNat_lt.2 h)
  · exact Or.inr (Or.inl (UInt8.toNat_inj.1 h))
  · exact Or.inr (Or.inr (UInt8.lt_iff_toNat_lt.2 h))
theorem u8_irrefl (a : UInt8) : ¬ a < a := by rw [UInt8.lt_iff_toNat_lt]; omega
theorem u8_asymm {a b : UInt8} (h : a < b) : ¬ b < a := by rw [UInt8.lt_iff_toNat_lt] at *; omega
theorem u8_trans {a b c : UInt8} (h : a < b) (k : b < c) : a < c := by rw [UInt8.lt_iff_toNat_lt] at *; omega

theorem cB_lt {a b : UInt8} {as bs : List UInt8} (h : a < b) : Lib.compareBytes (a :: as) (b :: bs) = -1 := by simp [Lib.compareBytes, h]
theorem cB_gt {a b : UInt8} {as bs : List UInt8} (h : b < a) : Lib.compareBytes (a :: as) (b :: bs) = 1 := by
  have := u8_asymm h
  simp only [Lib.compareBytes, this, h, if_false, if_true]
theorem cB_same {a : UInt8} {as bs : List UInt8} : Lib.compareBytes (a :: as) (a :: bs) = Lib.compareBytes as bs := by simp [Lib.compareBytes]

theorem cB_tri (a b : List UInt8) : Lib.compareBytes a b = -1 ∨ Lib.compareBytes a b = 0 ∨ Lib.compareBytes a b = 1 := by
  induction a generalizing b with
  | nil => cases b <;> simp [Lib.compareBytes]
  | cons x xs ih =>
    cases b with
    | nil => simp [Lib.compareBytes]
    | cons y ys =>
      rcases u8_tri x y with h | h | h
      · exact Or.inl (cB_lt h)
      · subst h; rw [cB_same]; exact ih ys
      · exact Or.inr (Or.inr (cB_gt h))
theorem cB_anti (a b : List UInt8) : Lib.compareBytes b a = - Lib.compareBytes a b := by
  induction a generalizing b with
  | nil => cases b <;> simp [Lib.compareBytes]
  | cons x xs ih =>
    cases b with
    | nil => simp [Lib.compareBytes]
    | cons y ys =>
      rcases u8_tri x y with h | h | h
      · rw [cB_lt h, cB_gt h]; rfl
      · subst h; rw [cB_same, cB_same]; exact ih ys
      · rw [cB_lt h, cB_gt h]
theorem cB_zero (a b : List UInt8) : Lib.compareBytes a b = 0 ↔ a = b := by
  induction a generalizing b with
  | nil => cases b <;> simp [Lib.compareBytes]
  | cons x xs ih =>
    cases b with
    | nil => simp [Lib.compareBytes]
    | cons y ys =>
      rcases u8_tri x y with h | h | h
      · rw [cB_lt h]
        constructor
        · intro h'; omega
        · intro h'; simp at h'; exact absurd (h'.1 ▸ h) (u8_irrefl _)
      · subst h; rw [cB_same, ih]; simp
      · rw [cB_gt h]
        constructor
        · intro h'; omega
        · intro h'; simp at h'; exact absurd (h'.1 ▸ h) (u8_irrefl _)
theorem cB_trans (a b c : List UInt8) : Lib.compareBytes a b = -1 → Lib.compareBytes b c = -1 → Lib.compareBytes a c = -1 := by
  induction a generalizing b c with
  | nil =>
    intro h1 h2
    cases c with
    | nil => cases b <;> simp [Lib.compareBytes] at h1 h2
    | cons z zs => simp [Lib.compareBytes]
  | cons x xs ih =>
    intro h1 h2
    cases b with
    | nil => simp [Lib.compareBytes] at h1
    | cons y ys =>
      cases c with
      | nil => simp [Lib.compareBytes] at h2
      | cons z zs =>
        rcases u8_tri x y with h | h | h
        · rcases u8_tri y z with k | k | k
          · exact cB_lt (u8_trans h k)
          · subst k; exact cB_lt h
          · rw [cB_gt k] at h2; omega
        · subst h
          rw [cB_same] at h1
          rcases u8_tri x z with k | k | k
          · exact cB_lt k
          · subst k; rw [cB_same] at h2 ⊢; exact ih ys zs h1 h2
          · rw [cB_gt k] at h2; omega
        · rw [cB_gt h] at h1; omega
theorem ord_bytes : Ord3 Lib.compareBytes := ⟨cB_tri, cB_anti, cB_zero, cB_trans⟩

def orV (x y z : Int) : Int := if x ≠ 0 then x else if y ≠ 0 then y else z
/-- The order of values: by kind, then number, then bytes. -/
def cmpV (a b : Int × Int × List UInt8) : Int := orV (Lib.compareInt a.1 b.1) (Lib.compareInt a.2.1 b.2.1) (Lib.compareBytes a.2.2 b.2.2)

theorem ord_val : Ord3 cmpV := by
  have I := ord_int
  have S := ord_bytes
  refine ⟨fun a b => ?_, fun a b => ?_, fun a b => ?_, fun a b c => ?_⟩
  · have h1 := I.tri a.1 b.1
    have h2 := I.tri a.2.1 b.2.1
    have h3 := S.tri a.2.2 b.2.2
    unfold cmpV orV
    split
    · exact h1
    · split
      · exact h2
      · exact h3
  · unfold cmpV orV
    rw [I.anti a.1 b.1, I.anti a.2.1 b.2.1, S.anti a.2.2 b.2.2]
    split <;> split <;> (try split) <;> (try split) <;> omega
  · have h1 := I.zero a.1 b.1
    have h2 := I.zero a.2.1 b.2.1
    have h3 := S.zero a.2.2 b.2.2
    obtain ⟨a1, a2, a3⟩ := a
    obtain ⟨b1, b2, b3⟩ := b
    simp only at h1 h2 h3
    unfold cmpV orV
    simp only [Prod.mk.injEq]
    split
    · rename_i h; constructor
      · intro h'; exact absurd h' h
      · intro h'; exact absurd (h1.2 h'.1) h
    · rename_i h
      split
      · rename_i k; constructor
        · intro h'; exact absurd h' k
        · intro h'; exact absurd (h2.2 h'.2.1) k
      · rename_i k
        simp only [ne_eq, Decidable.not_not] at h k
        rw [h3]
        exact ⟨fun h' => ⟨h1.1 h, h2.1 k, h'⟩, fun h' => h'.2.2⟩
  · obtain ⟨a1, a2, a3⟩ := a
    obtain ⟨b1, b2, b3⟩ := b
    obtain ⟨c1, c2, c3⟩ := c
    have t1 := I.trans a1 b1 c1
    have t2 := I.trans a2 b2 c2
    have t3 := S.trans a3 b3 c3
    have z1 := I.zero a1 b1
    have z2 := I.zero b1 c1
    have z3 := I.zero a2 b2
    have z4 := I.zero b2 c2
    unfold cmpV orV
    simp only
    intro h1 h2
    by_cases e1 : Lib.compareInt a1 b1 = 0
    · have := z1.1 e1; subst this
      by_cases e2 : Lib.compareInt a1 c1 = 0
      · simp only [e1, e2, ne_eq, not_true_eq_false, if_false] at h1 h2 ⊢
        by_cases e3 : Lib.compareInt a2 b2 = 0
        · have := z3.1 e3; subst this
          by_cases e4 : Lib.compareInt a2 c2 = 0
          · simp only [e3, e4, not_true_eq_false, if_false] at h1 h2 ⊢
            exact t3 h1 h2
          · simp only [e3, e4, not_true_eq_false, not_false_eq_true, if_false, if_true] at h1 h2 ⊢
            exact h2
        · simp only [e3, not_false_eq_true, if_true] at h1
          by_cases e4 : Lib.compareInt b2 c2 = 0
          · have := z4.1 e4; subst this
            simp only [e3, not_false_eq_true, if_true]
            exact h1
          · simp only [e4, not_false_eq_true, if_true] at h2
            rw [t2 h1 h2]; simp
      · simp only [e1, e2, ne_eq, not_true_eq_false, not_false_eq_true, if_false, if_true] at h1 h2 ⊢
        exact h2
    · simp only [e1, ne_eq, not_false_eq_true, if_true] at h1
      by_cases e2 : Lib.compareInt b1 c1 = 0
      · have := z2.1 e2; subst this
        simp only [e1, ne_eq, not_false_eq_true, if_true]
        exact h1
      · simp only [e2, ne_eq, not_false_eq_true, if_true] at h2
        rw [t1 h1 h2]; simp
end Go.Proofs.YtcjnhhbcleljmaaGreatDoor.V
namespace Go.Proofs.YtcjnhhbcleljmaaGreatDoor.V

theorem parseUint10_append {l r : List UInt8} {acc v : Nat} (h : Lib.parseUint10 acc l = .ok v) : Lib.parseUint10 acc (l ++ r) = Lib.parseUint10 v r := by
  induction l generalizing acc with
  | nil =>
    simp only [Lib.parseUint10] at h
    injection h with h
    subst h; rfl
  | cons c q ih =>
    simp only [Lib.parseUint10] at h
    simp only [List.cons_append, Lib.parseUint10]
    split at h
    · split at h
      · cases h
      · split at h
        · cases h
        · rename_i h1 h2 h3
          rw [if_pos h1, if_neg h2, if_neg h3]
          exact ih h
    · cases h

theorem digit_toNat {d : Nat} (h : d < 10) : (UInt8.ofNat (48 + d)).toNat = 48 + d := by
  rw [UInt8.toNat_ofNat']; omega

theorem parseUint10_dec (u : Nat) (h : u < 18446744073709551616) : Lib.parseUint10 0 (Lib.decDigits u) = .ok u := by
  induction u using Nat.strongRecOn with
  | _ u ih =>
    by_cases h10 : u < 10
    · rw [Lib.decDigits, dif_pos h10]
      simp only [Lib.parseUint10, digit_toNat h10]
      rw [if_pos (by omega), if_neg (by omega), if_neg (by omega)]
      congr 1; omega
    · rw [Lib.decDigits, dif_neg h10, parseUint10_append (ih (u / 10) (by omega) (by omega))]
      have hd : u % 10 < 10 := Nat.mod_lt _ (by decide)
      simp only [Lib.parseUint10, digit_toNat hd]
      rw [if_pos (by omega), if_neg (by omega), if_neg (by omega)]
      congr 1; omega

theorem dec_cons (u : Nat) : ∃ c r, Lib.decDigits u = c :: r ∧ 48 ≤ c.toNat ∧ c.toNat ≤ 57 := by
  induction u using Nat.strongRecOn with
  | _ u ih =>
    by_cases h10 : u < 10
    · rw [Lib.decDigits, dif_pos h10]
      exact ⟨_, [], rfl, by rw [digit_toNat h10]; omega, by rw [digit_toNat h10]; omega⟩
    · obtain ⟨c, r, h1, h2, h3⟩ := ih (u / 10) (by omega)
      rw [Lib.decDigits, dif_neg h10, h1]
      exact ⟨c, _, rfl, h2, h3⟩

theorem parseMag_dec (u : Nat) (h : u < 18446744073709551616) : Lib.parseMag (Lib.decDigits u) = .ok u := by
  obtain ⟨c, r, h1, _, _⟩ := dec_cons u
  unfold Lib.parseMag
  rw [if_neg (by rw [h1]; simp)]
  exact parseUint10_dec u h

theorem atoi_itoa (n : Int) (h0 : -4611686018427387904 ≤ n) (h1 : n ≤ 4611686018427387904) : Lib.atoiAll (Lib.itoa n) = .ok n := by
  unfold Lib.itoa
  by_cases hn : n < 0
  · rw [if_pos hn, Lib.atoiAll_minus, parseMag_dec _ (by omega)]
    simp only [Lib.signed]
    rw [if_neg (by omega)]
    congr 1; omega
  · rw [if_neg hn]
    obtain ⟨c, r, h2, h3, h4⟩ := dec_cons n.toNat
    have hm := parseMag_dec n.toNat (by omega)
    rw [h2] at hm ⊢
    rw [Lib.atoiAll_plain c r (by omega) (by omega), hm]
    simp only [Lib.signless]
    rw [if_neg (by omega)]
    congr 1; omega

theorem itoa_head (n : Int) : ∃ c r, Lib.itoa n = c :: r ∧ c.toNat ≠ 34 ∧ (c.toNat = 45 ∨ digB c.toNat = true) := by
  unfold Lib.itoa
  by_cases hn : n < 0
  · rw [if_pos hn]; exact ⟨45, _, rfl, by decide, Or.inl rfl⟩
  · rw [if_neg hn]
    obtain ⟨c, r, h2, h3, h4⟩ := dec_cons n.toNat
    rw [h2]
    exact ⟨c, r, rfl, by omega, Or.inr (digB_t (by omega) (by omega))⟩

theorem numL_itoa (n : Int) (h0 : -4611686018427387904 ≤ n) (h1 : n ≤ 4611686018427387904) : numL (Lib.itoa n) = some n := by
  unfold numL; rw [atoi_itoa n h0 h1]; simp

theorem unqIn_escL (l : List UInt8) : unqIn (escL l) = some l := by
  induction l with
  | nil => rfl
  | cons c r ih =>
    simp only [escL]
    cases h : escB c.toNat
    · have h' : ¬ ((c.toNat : Int) = 34 ∨ (c.toNat : Int) = 92) := by simpa [escB] using h
      simp only [Bool.false_eq_true, if_false]
      rw [unqIn_plain (fun e => h' (Or.inl e)) (fun e => h' (Or.inr e)), ih]; rfl
    · simp only [if_true]
      rw [unqIn_esc (by decide) h, ih]; rfl

theorem escL_unqIn (m r : List UInt8) (h : unqIn m = some r) : escL r = m := by
  match m, h with
  | [], h => simp [unqIn] at h; subst h; rfl
  | c :: q, h =>
    by_cases h34 : (c.toNat : Int) = 34
    · rw [unqIn_quote h34] at h; cases h
    · by_cases h92 : (c.toNat : Int) = 92
      · match q, h with
        | [], h => rw [unqIn_last h92] at h; cases h
        | d :: q', h =>
          cases hd : escB d.toNat
          · rw [unqIn_noesc h92 hd] at h; cases h
          · rw [unqIn_esc h92 hd] at h
            obtain ⟨r', hr', rfl⟩ := Option.map_eq_some_iff.1 h
            have hc : c = 92 := UInt8.toNat_inj.1 (by show c.toNat = 92; omega)
            simp only [escL, hd, if_true, hc, escL_unqIn q' r' hr']
      · rw [unqIn_plain h34 h92] at h
        obtain ⟨r', hr', rfl⟩ := Option.map_eq_some_iff.1 h
        have hd : escB c.toNat = false := escB_f (by omega)
        simp only [escL, hd, Bool.false_eq_true, if_false, escL_unqIn q r' hr']

theorem unqL_quoteL (l : List UInt8) : unqL (quoteL l) = some l := by
  have hl : (quoteL l).length = (escL l).length + 2 := by simp [quoteL]
  unfold unqL
  rw [if_neg (by omega), if_neg (by simp [quoteL]), if_neg]
  · rw [← unqIn_escL l]
    congr 1
    rw [hl]
    simp [quoteL]
  · rw [hl]
    simp [quoteL]

theorem quote_shape {l : List UInt8} (h2 : ¬ l.length < 2) (h0 : (l[0]?.getD 0).toNat = 34) (h1 : (l[l.length - 1]?.getD 0).toNat = 34) : l = 34 :: ((l.take (l.length - 1)).drop 1 ++ [34]) := by
  match l, h2 with
  | [], h2 => simp at h2
  | [a], h2 => simp at h2
  | a :: b :: q, _ =>
    have ha : a = 34 := UInt8.toNat_inj.1 (by simpa using h0)
    subst ha
    congr 1
    have hn : (b :: q) ≠ [] := by simp
    have hlast : (b :: q).getLast hn = 34 := by
      apply UInt8.toNat_inj.1
      rw [List.getLast_eq_getElem]
      have : ((34 : UInt8) :: b :: q)[((34 : UInt8) :: b :: q).length - 1]? = some ((b :: q)[(b :: q).length - 1]) := by simp
      rw [this] at h1
      exact h1
    have e := List.dropLast_concat_getLast hn
    rw [hlast] at e
    rw [← e]
    simp [List.dropLast_eq_take]

theorem quoteL_unqL {l r : List UInt8} (h : unqL l = some r) : quoteL r = l := by
  unfold unqL at h
  split at h
  · cases h
  · split at h
    · cases h
    · split at h
      · cases h
      · rename_i a b c
        simp only [ne_eq, Decidable.not_not] at b c
        have e := escL_unqIn _ _ h
        unfold quoteL
        rw [e]
        exact (quote_shape a b c).symm

/-- What is read is right, and is written as it stood. -/
theorem parseL_back {l r : List UInt8} {k n : Int} (h : parseL l = some (k, n, r)) : rightB k n r = true ∧ textL k n r = l := by
  unfold parseL at h
  cases hv : valL l with
  | none => rw [hv] at h; simp at h
  | some t =>
    obtain ⟨k', n', r'⟩ := t
    rw [hv] at h
    simp only at h
    cases hr : rightB k' n' r' with
    | false => rw [hr] at h; simp at h
    | true =>
      rw [hr] at h
      simp only [if_true, Option.some.injEq, Prod.mk.injEq] at h
      obtain ⟨rfl, rfl, rfl⟩ := h
      refine ⟨hr, ?_⟩
      unfold valL at hv
      split at hv
      · cases hv
      · split at hv
        · cases hv
        · split at hv
          · obtain ⟨q, hq, hx⟩ := Option.map_eq_some_iff.1 hv
            simp only [Prod.mk.injEq] at hx
            obtain ⟨rfl, rfl, rfl⟩ := hx
            simp only [textL]
            exact quoteL_unqL hq
          · split at hv
            · obtain ⟨q, hq, hx⟩ := Option.map_eq_some_iff.1 hv
              simp only [Prod.mk.injEq] at hx
              obtain ⟨rfl, rfl, rfl⟩ := hx
              simp only [textL, if_true]
              unfold numL at hq
              split at hq
              · split at hq
                · rename_i e; simp at hq; rw [← hq]; exact e
                · cases hq
              · cases hq
            · simp only [Option.some.injEq, Prod.mk.injEq] at hv
              obtain ⟨rfl, rfl, rfl⟩ := hv
              simp [textL]

/-- What is written is read. -/
theorem parseL_text {r : List UInt8} {k n : Int} (h : rightB k n r = true) : parseL (textL k n r) = some (k, n, r) := by
  have hv : valL (textL k n r) = some (k, n, r) := by
    by_cases k1 : k = 1
    · subst k1
      have hb : r = [] ∧ -4611686018427387904 ≤ n ∧ n ≤ 4611686018427387904 := by simpa [rightB] using h
      obtain ⟨rfl, n0, n1⟩ := hb
      simp only [textL, if_true]
      have hlen := Lib.itoa_length_le n (by omega) (by omega)
      obtain ⟨c, q, e, e1, e2⟩ := itoa_head n
      have hnum := numL_itoa n n0 n1
      rw [e] at hnum hlen ⊢
      unfold valL
      rw [if_neg (by simp), if_neg (by omega), if_neg (by simpa using e1), if_pos (by simpa using e2), hnum]; rfl
    · by_cases k2 : k = 2
      · subst k2
        have hb : n = 0 ∧ symB r = true := by simpa [rightB] using h
        obtain ⟨rfl, hs⟩ := hb
        have et : textL 2 0 r = r := by simp [textL]
        rw [et]
        cases r with
        | nil => simp [symB] at hs
        | cons c q =>
          simp only [symB, Bool.and_eq_true, decide_eq_true_eq] at hs
          obtain ⟨h1, h2, _⟩ := hs
          have hlo : 97 ≤ (c.toNat : Int) ∧ (c.toNat : Int) ≤ 122 := by simpa [lowB] using h2
          unfold valL
          rw [if_neg (by simp), if_neg (by simp; omega), if_neg (by simp; omega), if_neg]
          simp [digB]; omega
      · by_cases k3 : k = 3
        · subst k3
          have hb : n = 0 ∧ strB r = true := by simpa [rightB] using h
          obtain ⟨rfl, hs⟩ := hb
          have et : textL 3 0 r = quoteL r := by simp [textL]
          rw [et]
          simp only [strB, Bool.and_eq_true, decide_eq_true_eq] at hs
          have hl := escL_length r
          have hq : (quoteL r).length = (escL r).length + 2 := by simp [quoteL]
          unfold valL
          rw [if_neg (by omega), if_neg (by omega), if_pos (by simp [quoteL]), unqL_quoteL]; rfl
        · simp [rightB, k1, k2, k3] at h
  unfold parseL
  rw [hv]; simp [h]
end Go.Proofs.YtcjnhhbcleljmaaGreatDoor.V
namespace Go.Proofs.YtcjnhhbcleljmaaGreatDoor.V

theorem unqIn_app (r q : List UInt8) : unqIn (escL r ++ q) = (unqIn q).map (r ++ ·) := by
  induction r with
  | nil => simp [escL]
  | cons c r ih =>
    simp only [escL]
    cases h : escB c.toNat
    · have h' : ¬ ((c.toNat : Int) = 34 ∨ (c.toNat : Int) = 92) := by simpa [escB] using h
      simp only [Bool.false_eq_true, if_false, List.cons_append]
      rw [unqIn_plain (fun e => h' (Or.inl e)) (fun e => h' (Or.inr e)), ih]
      cases unqIn q <;> simp
    · simp only [if_true, List.cons_append]
      rw [unqIn_esc (by decide) h, ih]
      cases unqIn q <;> simp

theorem dec_digits (u : Nat) : ∀ c ∈ Lib.decDigits u, 48 ≤ c.toNat ∧ c.toNat ≤ 57 := by
  induction u using Nat.strongRecOn with
  | _ u ih =>
    by_cases h10 : u < 10
    · rw [Lib.decDigits, dif_pos h10]
      intro c hc
      rw [List.mem_singleton.1 hc, digit_toNat h10]; omega
    · rw [Lib.decDigits, dif_neg h10]
      intro c hc
      rcases List.mem_append.1 hc with h | h
      · exact ih (u / 10) (by omega) c h
      · rw [List.mem_singleton.1 h, digit_toNat (Nat.mod_lt _ (by decide))]
        have := Nat.mod_lt u (show 0 < 10 by decide)
        omega
theorem itoa_bytes (n : Int) : ∀ c ∈ Lib.itoa n, c.toNat ≠ 34 := by
  unfold Lib.itoa
  intro c hc
  split at hc
  · rcases List.mem_cons.1 hc with h | h
    · subst h; decide
    · have := dec_digits _ c h; omega
  · have := dec_digits _ c hc; omega

/-- What a text that is read looks like. -/
theorem parseL_shape {l : List UInt8} (h : parseL l ≠ none) : (∃ n, l = Lib.itoa n) ∨ symB l = true ∨ ∃ r, strB r = true ∧ l = quoteL r := by
  cases hp : parseL l with
  | none => exact absurd hp h
  | some t =>
    obtain ⟨k, n, r⟩ := t
    obtain ⟨hr, ht⟩ := parseL_back hp
    by_cases k1 : k = 1
    · subst k1
      simp only [textL, if_true] at ht
      exact Or.inl ⟨n, ht.symm⟩
    · by_cases k2 : k = 2
      · subst k2
        simp [rightB] at hr
        simp [textL] at ht
        subst ht
        exact Or.inr (Or.inl hr.2)
      · by_cases k3 : k = 3
        · subst k3
          simp [rightB] at hr
          simp [textL] at ht
          exact Or.inr (Or.inr ⟨r, hr.2, ht.symm⟩)
        · simp [rightB, k1, k2, k3] at hr

theorem parseL_none_34 {l : List UInt8} (h : ∀ r, strB r = true → l ≠ escL r ++ [34]) : parseL (34 :: l) = none := by
  cases hp : parseL (34 :: l) with
  | none => rfl
  | some t =>
    rcases parseL_shape (l := 34 :: l) (by rw [hp]; simp) with ⟨n, e⟩ | e | ⟨r, hr, e⟩
    · exact absurd rfl (itoa_bytes n 34 (by rw [← e]; simp))
    · simp [symB, lowB] at e
    · simp only [quoteL, List.cons.injEq, true_and] at e
      exact absurd e (h r hr)

theorem esc_inj {s q r : List UInt8} (e : escL s ++ q = escL r) : (unqIn q).map (s ++ ·) = some r := by
  rw [← unqIn_app, e, unqIn_escL]

theorem bad0 (s : List UInt8) : parseL (34 :: escL s) = none := parseL_none_34 fun r _ e => by
  have h := unqIn_app r [34]
  rw [← e, unqIn_escL] at h
  simp [unqIn_quote (c := 34) (r := []) (by decide)] at h
theorem bad2 (s : List UInt8) : parseL (34 :: (escL s ++ [92, 34])) = none := parseL_none_34 fun r _ e => by
  have e' : (escL s ++ [92]) ++ [34] = escL r ++ [34] := by rw [← e]; simp
  have h := esc_inj (List.append_cancel_right e')
  simp [unqIn_last (c := 92) (by decide)] at h
theorem bad3 (s : List UInt8) : parseL (34 :: (escL s ++ [92, 97, 34])) = none := parseL_none_34 fun r _ e => by
  have e' : (escL s ++ [92, 97]) ++ [34] = escL r ++ [34] := by rw [← e]; simp
  have h := esc_inj (List.append_cancel_right e')
  simp [unqIn_noesc (c := 92) (d := 97) (r := []) (by decide) (by decide)] at h
theorem bad4 (s : List UInt8) : parseL (34 :: (escL s ++ [1, 34])) = none := parseL_none_34 fun r hr e => by
  have e' : (escL s ++ [1]) ++ [34] = escL r ++ [34] := by rw [← e]; simp
  have h := esc_inj (List.append_cancel_right e')
  rw [unqIn_plain (c := 1) (r := []) (by decide) (by decide)] at h
  simp [unqIn] at h
  subst h
  simp [strB, strC] at hr
theorem bad5 (s : List UInt8) : parseL (34 :: (escL s ++ [34, 34])) = none := parseL_none_34 fun r _ e => by
  have e' : (escL s ++ [34]) ++ [34] = escL r ++ [34] := by rw [← e]; simp
  have h := esc_inj (List.append_cancel_right e')
  simp [unqIn_quote (c := 34) (r := []) (by decide)] at h
theorem bad6 (s : List UInt8) : parseL (34 :: (escL s ++ [34, 32])) = none := parseL_none_34 fun r _ e => by
  have e' : (escL s ++ [34]) ++ [32] = escL r ++ [34] := by rw [← e]; simp
  have h := (List.append_inj' e' rfl).2
  simp at h
theorem escL_head (s : List UInt8) : ∀ c q, escL s = c :: q → c.toNat ≠ 34 := by
  intro c q e
  cases s with
  | nil => simp [escL] at e
  | cons a r =>
    simp only [escL] at e
    split at e
    · simp only [List.cons.injEq] at e; rw [← e.1]; decide
    · rename_i h
      simp only [List.cons.injEq] at e
      rw [← e.1]
      intro h34
      exact h (escB_t (Or.inl (by omega)))
theorem bad1 (s : List UInt8) : parseL (escL s ++ [34]) = none := by
  cases hp : parseL (escL s ++ [34]) with
  | none => rfl
  | some t =>
    rcases parseL_shape (l := escL s ++ [34]) (by rw [hp]; simp) with ⟨n, e⟩ | e | ⟨r, _, e⟩
    · exact absurd rfl (itoa_bytes n 34 (by rw [← e]; simp))
    · cases he : escL s with
      | nil => rw [he] at e; simp [symB, lowB] at e
      | cons c q =>
        rw [he] at e
        simp [symB, innB, lowB, upB, digB] at e
    · cases he : escL s with
      | nil => rw [he] at e; simp [quoteL] at e
      | cons c q =>
        rw [he] at e
        simp only [quoteL, List.cons_append, List.cons.injEq] at e
        have := escL_head s c q he
        rw [e.1] at this
        exact absurd rfl this
end Go.Proofs.YtcjnhhbcleljmaaGreatDoor.V
namespace Go.Proofs.YtcjnhhbcleljmaaGreatDoor.V

/-- A value: kind, number, bytes. -/
abbrev Vl := Int × Int × List UInt8
/-- A fact: name, arguments. -/
abbrev Fc := List UInt8 × List Vl

/-- Two lists: by the first place at which they are unlike, a beginning first. -/
def lexL {α : Type} (f : α → α → Int) : List α → List α → Int
  | [], [] => 0
  | [], _ :: _ => -1
  | _ :: _, [] => 1
  | a :: as, b :: bs => if f a b ≠ 0 then f a b else lexL f as bs

theorem lexL_ne {α : Type} {f : α → α → Int} {a b : α} {as bs : List α} (h : f a b ≠ 0) : lexL f (a :: as) (b :: bs) = f a b := by simp [lexL, h]
theorem lexL_eq {α : Type} {f : α → α → Int} {a b : α} {as bs : List α} (h : f a b = 0) : lexL f (a :: as) (b :: bs) = lexL f as bs := by simp [lexL, h]

theorem ord_lex {α : Type} {f : α → α → Int} (O : Ord3 f) : Ord3 (lexL f) := by
  refine ⟨?_, ?_, ?_, ?_⟩
  · intro a
    induction a with
    | nil => intro b; cases b <;> simp [lexL]
    | cons x xs ih =>
      intro b
      cases b with
      | nil => simp [lexL]
      | cons y ys =>
        by_cases h : f x y = 0
        · rw [lexL_eq h]; exact ih ys
        · rw [lexL_ne h]; exact O.tri x y
  · intro a
    induction a with
    | nil => intro b; cases b <;> simp [lexL]
    | cons x xs ih =>
      intro b
      cases b with
      | nil => simp [lexL]
      | cons y ys =>
        have hn := O.anti x y
        by_cases h : f x y = 0
        · rw [lexL_eq h, lexL_eq (by omega)]; exact ih ys
        · rw [lexL_ne h, lexL_ne (by omega)]; exact hn
  · intro a
    induction a with
    | nil => intro b; cases b <;> simp [lexL]
    | cons x xs ih =>
      intro b
      cases b with
      | nil => simp [lexL]
      | cons y ys =>
        have hz := O.zero x y
        by_cases h : f x y = 0
        · rw [lexL_eq h, ih ys]
          have := hz.1 h
          simp [this]
        · rw [lexL_ne h]
          constructor
          · intro h'; exact absurd h' h
          · intro h'; simp at h'; exact absurd (hz.2 h'.1) h
  · intro a
    induction a with
    | nil =>
      intro b c h1 h2
      cases c with
      | nil => cases b <;> simp [lexL] at h1 h2
      | cons z zs => simp [lexL]
    | cons x xs ih =>
      intro b c h1 h2
      cases b with
      | nil => simp [lexL] at h1
      | cons y ys =>
        cases c with
        | nil => simp [lexL] at h2
        | cons z zs =>
          by_cases e1 : f x y = 0
          · have := (O.zero x y).1 e1; subst this
            rw [lexL_eq e1] at h1
            by_cases e2 : f x z = 0
            · rw [lexL_eq e2] at h2 ⊢; exact ih ys zs h1 h2
            · rw [lexL_ne e2] at h2 ⊢; exact h2
          · rw [lexL_ne e1] at h1
            by_cases e2 : f y z = 0
            · have := (O.zero y z).1 e2; subst this
              rw [lexL_ne e1]; exact h1
            · rw [lexL_ne e2] at h2
              have h3 := O.trans x y z h1 h2
              rw [lexL_ne (by omega)]; exact h3

/-- First the one, then, where it tells nothing, the other. -/
theorem ord_then {α β γ : Type} {f : β → β → Int} {g : γ → γ → Int} (F : Ord3 f) (G : Ord3 g) (p : α → β) (q : α → γ) (inj : ∀ a b, p a = p b → q a = q b → a = b) : Ord3 (fun a b => if f (p a) (p b) ≠ 0 then f (p a) (p b) else g (q a) (q b)) := by
  refine ⟨fun a b => ?_, fun a b => ?_, fun a b => ?_, fun a b c => ?_⟩
  · by_cases h : f (p a) (p b) = 0
    · simp only [h, ne_eq, not_true_eq_false, if_false]; exact G.tri _ _
    · rw [if_pos h]; exact F.tri _ _
  · have hn := F.anti (p a) (p b)
    by_cases h : f (p a) (p b) = 0
    · have h' : f (p b) (p a) = 0 := by omega
      simp only [h, h', ne_eq, not_true_eq_false, if_false]; exact G.anti _ _
    · have h' : f (p b) (p a) ≠ 0 := by omega
      simp only [h, h', ne_eq, not_false_eq_true, if_true]; exact hn
  · by_cases h : f (p a) (p b) = 0
    · simp only [h, ne_eq, not_true_eq_false, if_false]
      rw [G.zero]
      exact ⟨fun e => inj a b ((F.zero _ _).1 h) e, fun e => by rw [e]⟩
    · simp only [h, ne_eq, not_false_eq_true, if_true]
      constructor
      · intro e; exact absurd e (by simp)
      · intro e; subst e; exact absurd ((F.zero _ _).2 rfl) h
  · intro h1 h2
    by_cases e1 : f (p a) (p b) = 0
    · have e := (F.zero _ _).1 e1
      simp only [e1, ne_eq, not_true_eq_false, if_false] at h1
      rw [e]
      by_cases e2 : f (p b) (p c) = 0
      · simp only [e2, ne_eq, not_true_eq_false, if_false] at h2 ⊢
        exact G.trans _ _ _ h1 h2
      · simp only [e2, ne_eq, not_false_eq_true, if_true] at h2 ⊢
        exact h2
    · simp only [e1, ne_eq, not_false_eq_true, if_true] at h1
      by_cases e2 : f (p b) (p c) = 0
      · have e := (F.zero _ _).1 e2
        rw [← e]
        simp only [e1, ne_eq, not_false_eq_true, if_true]
        exact h1
      · simp only [e2, ne_eq, not_false_eq_true, if_true] at h2
        have h3 := F.trans _ _ _ h1 h2
        rw [if_pos (by omega)]; exact h3

/-- The order of facts: by name, then the count of arguments, then these one by one. -/
def cmpF (a b : Fc) : Int :=
  if Lib.compareBytes a.1 b.1 ≠ 0 then Lib.compareBytes a.1 b.1
  else if Lib.compareInt a.2.length b.2.length ≠ 0 then Lib.compareInt a.2.length b.2.length
  else lexL cmpV a.2 b.2

theorem ord_args : Ord3 (fun a b : List Vl => if Lib.compareInt a.length b.length ≠ 0 then Lib.compareInt a.length b.length else lexL cmpV a b) := by
  have I := ord_int
  have L := ord_lex ord_val
  refine ⟨fun a b => ?_, fun a b => ?_, fun a b => ?_, fun a b c => ?_⟩
  · by_cases h : Lib.compareInt a.length b.length = 0
    · simp only [h, ne_eq, not_true_eq_false, if_false]; exact L.tri _ _
    · rw [if_pos h]; exact I.tri _ _
  · have hn := I.anti a.length b.length
    by_cases h : Lib.compareInt a.length b.length = 0
    · have h' : Lib.compareInt b.length a.length = 0 := by omega
      simp only [h, h', ne_eq, not_true_eq_false, if_false]; exact L.anti _ _
    · have h' : Lib.compareInt b.length a.length ≠ 0 := by omega
      simp only [h, h', ne_eq, not_false_eq_true, if_true]; exact hn
  · by_cases h : Lib.compareInt a.length b.length = 0
    · simp only [h, ne_eq, not_true_eq_false, if_false]; exact L.zero _ _
    · simp only [h, ne_eq, not_false_eq_true, if_true]
      constructor
      · intro e; exact absurd e (by simp)
      · intro e; subst e; exact absurd ((I.zero _ _).2 rfl) h
  · intro h1 h2
    by_cases e1 : Lib.compareInt a.length b.length = 0
    · have e := (I.zero _ _).1 e1
      simp only [e1, ne_eq, not_true_eq_false, if_false] at h1
      rw [e]
      by_cases e2 : Lib.compareInt b.length c.length = 0
      · simp only [e2, ne_eq, not_true_eq_false, if_false] at h2 ⊢
        exact L.trans _ _ _ h1 h2
      · simp only [e2, ne_eq, not_false_eq_true, if_true] at h2 ⊢
        exact h2
    · simp only [e1, ne_eq, not_false_eq_true, if_true] at h1
      by_cases e2 : Lib.compareInt b.length c.length = 0
      · have e := (I.zero _ _).1 e2
        rw [← e]
        simp only [e1, ne_eq, not_false_eq_true, if_true]
        exact h1
      · simp only [e2, ne_eq, not_false_eq_true, if_true] at h2
        have h3 := I.trans _ _ _ h1 h2
        rw [if_pos (by omega)]; exact h3

theorem ord_fact : Ord3 cmpF :=
  ord_then (α := Fc) ord_bytes ord_args (·.1) (·.2) (fun _ _ h k => Prod.ext h k)

/-- A fact's text: the name, then the arguments' texts between brackets. -/
def joinL (ahead : List UInt8) : List Vl → List UInt8
  | [] => []
  | v :: r => ahead ++ (textL v.1 v.2.1 v.2.2 ++ joinL [44, 32] r)
def textF (a : Fc) : List UInt8 := a.1 ++ (joinL [40] a.2 ++ if a.2.isEmpty then [] else [41])

/-- A beginning of p's bytes, then none of them: the parts are told. -/
theorem span_inj {p : UInt8 → Bool} {a b R S : List UInt8} (ha : ∀ c ∈ a, p c = true) (hb : ∀ c ∈ b, p c = true) (hR : ∀ c ∈ R.head?, p c = false) (hS : ∀ c ∈ S.head?, p c = false) (h : a ++ R = b ++ S) : a = b ∧ R = S := by
  induction a generalizing b with
  | nil =>
    cases b with
    | nil => exact ⟨rfl, h⟩
    | cons y ys =>
      simp only [List.nil_append, List.cons_append] at h
      subst h
      have h1 := hR y (by simp)
      rw [hb y (by simp)] at h1; cases h1
  | cons x xs ih =>
    cases b with
    | nil =>
      simp only [List.nil_append, List.cons_append] at h
      subst h
      have h1 := hS x (by simp)
      rw [ha x (by simp)] at h1; cases h1
    | cons y ys =>
      simp only [List.cons_append, List.cons.injEq] at h
      obtain ⟨h1, h2⟩ := ih (fun c hc => ha c (by simp [hc])) (fun c hc => hb c (by simp [hc])) h.2
      exact ⟨by rw [h.1, h1], h2⟩

theorem escq_inj {l m R S : List UInt8} (h : escL l ++ 34 :: R = escL m ++ 34 :: S) : l = m ∧ R = S := by
  induction l generalizing m with
  | nil =>
    cases m with
    | nil => simpa [escL] using h
    | cons y ys =>
      exfalso
      simp only [escL, List.nil_append] at h
      cases hy : escB y.toNat
      · have h' : ¬ ((y.toNat : Int) = 34 ∨ (y.toNat : Int) = 92) := by simpa [escB] using hy
        simp only [hy, Bool.false_eq_true, if_false, List.cons_append, List.cons.injEq] at h
        exact h' (Or.inl (by rw [← h.1]; rfl))
      · simp only [hy, if_true, List.cons_append, List.cons.injEq] at h
        exact absurd h.1 (by decide)
  | cons x xs ih =>
    cases m with
    | nil =>
      exfalso
      simp only [escL, List.nil_append] at h
      cases hx : escB x.toNat
      · have h' : ¬ ((x.toNat : Int) = 34 ∨ (x.toNat : Int) = 92) := by simpa [escB] using hx
        simp only [hx, Bool.false_eq_true, if_false, List.cons_append, List.cons.injEq] at h
        exact h' (Or.inl (by rw [h.1]; rfl))
      · simp only [hx, if_true, List.cons_append, List.cons.injEq] at h
        exact absurd h.1 (by decide)
    | cons y ys =>
      simp only [escL] at h
      cases hx : escB x.toNat
      · have hx' : ¬ ((x.toNat : Int) = 34 ∨ (x.toNat : Int) = 92) := by simpa [escB] using hx
        cases hy : escB y.toNat
        · simp only [hx, hy, Bool.false_eq_true, if_false, List.cons_append, List.cons.injEq] at h
          obtain ⟨h1, h2⟩ := ih h.2
          exact ⟨by rw [h.1, h1], h2⟩
        · exfalso
          simp only [hx, hy, Bool.false_eq_true, if_false, if_true, List.cons_append, List.cons.injEq] at h
          exact hx' (Or.inr (by rw [h.1]; rfl))
      · cases hy : escB y.toNat
        · have hy' : ¬ ((y.toNat : Int) = 34 ∨ (y.toNat : Int) = 92) := by simpa [escB] using hy
          exfalso
          simp only [hx, hy, Bool.false_eq_true, if_false, if_true, List.cons_append, List.cons.injEq] at h
          exact hy' (Or.inr (by rw [← h.1]; rfl))
        · simp only [hx, hy, if_true, List.cons_append, List.cons.injEq, true_and] at h
          obtain ⟨h1, h2⟩ := ih h.2
          exact ⟨by rw [h.1, h1], h2⟩

/-- What may stand behind a value's text. -/
def Behind (R : List UInt8) : Prop := ∃ c r, R = c :: r ∧ (c = 44 ∨ c = 41)

def numB (c : UInt8) : Bool := decide (c.toNat = 45) || digB c.toNat
theorem itoa_numB (n : Int) : ∀ c ∈ Lib.itoa n, numB c = true := by
  unfold Lib.itoa
  intro c hc
  have hd : ∀ u, c ∈ Lib.decDigits u → numB c = true := by
    intro u h
    have := dec_digits u c h
    have : digB c.toNat = true := digB_t (by omega) (by omega)
    simp [numB, this]
  split at hc
  · rcases List.mem_cons.1 hc with h | h
    · subst h; decide
    · exact hd _ h
  · exact hd _ hc
theorem itoa_inj {n m : Int} (n0 : -4611686018427387904 ≤ n) (n1 : n ≤ 4611686018427387904) (m0 : -4611686018427387904 ≤ m) (m1 : m ≤ 4611686018427387904) (h : Lib.itoa n = Lib.itoa m) : n = m := by
  have a := numL_itoa n n0 n1
  rw [h, numL_itoa m m0 m1] at a
  injection a with a
  exact a.symm
theorem symB_inn {l : List UInt8} (h : symB l = true) : ∀ c ∈ l, innB c = true := by
  cases l with
  | nil => simp [symB] at h
  | cons c r =>
    simp only [symB, Bool.and_eq_true] at h
    exact List.all_eq_true.1 h.2.2
theorem symB_cons {l : List UInt8} (h : symB l = true) : ∃ c r, l = c :: r ∧ lowB c.toNat = true := by
  cases l with
  | nil => simp [symB] at h
  | cons c r =>
    simp only [symB, Bool.and_eq_true] at h
    exact ⟨c, r, rfl, h.2.1⟩
theorem Behind.no {R : List UInt8} (h : Behind R) {p : UInt8 → Bool} (h1 : p 44 = false) (h2 : p 41 = false) : ∀ c ∈ R.head?, p c = false := by
  obtain ⟨c, r, rfl, hc⟩ := h
  intro d hd
  simp at hd; subst hd
  rcases hc with rfl | rfl
  · exact h1
  · exact h2

/-- Which kind a right value is, and what its text is. -/
def Kd (v : Vl) : Prop :=
  (∃ n : Int, (-4611686018427387904 ≤ n ∧ n ≤ 4611686018427387904) ∧ v = (1, n, []) ∧ textL v.1 v.2.1 v.2.2 = Lib.itoa n) ∨
  (∃ l : List UInt8, symB l = true ∧ v = (2, 0, l) ∧ textL v.1 v.2.1 v.2.2 = l) ∨
  (∃ l : List UInt8, v = (3, 0, l) ∧ textL v.1 v.2.1 v.2.2 = quoteL l)
theorem kd_of {v : Vl} (h : rightB v.1 v.2.1 v.2.2 = true) : Kd v := by
  obtain ⟨k, n, l⟩ := v
  simp only at h
  by_cases k1 : k = 1
  · subst k1
    have hb : l = [] ∧ -4611686018427387904 ≤ n ∧ n ≤ 4611686018427387904 := by simpa [rightB] using h
    obtain ⟨rfl, n0, n1⟩ := hb
    exact Or.inl ⟨n, ⟨n0, n1⟩, rfl, by simp [textL]⟩
  · by_cases k2 : k = 2
    · subst k2
      have hb : n = 0 ∧ symB l = true := by simpa [rightB] using h
      obtain ⟨rfl, hl⟩ := hb
      exact Or.inr (Or.inl ⟨l, hl, rfl, by simp [textL]⟩)
    · by_cases k3 : k = 3
      · subst k3
        have hb : n = 0 ∧ strB l = true := by simpa [rightB] using h
        obtain ⟨rfl, hl⟩ := hb
        exact Or.inr (Or.inr ⟨l, rfl, by simp [textL]⟩)
      · simp [rightB, k1, k2, k3] at h

theorem low_no {c : UInt8} (h : lowB c.toNat = true) : c.toNat ≠ 34 ∧ c.toNat ≠ 45 ∧ digB c.toNat = false := by
  have : 97 ≤ (c.toNat : Int) ∧ (c.toNat : Int) ≤ 122 := by simpa [lowB] using h
  exact ⟨by omega, by omega, digB_f (by omega)⟩
theorem num_sym {n : Int} {l R S : List UInt8} (hl : symB l = true) (h : Lib.itoa n ++ R = l ++ S) : False := by
  obtain ⟨c, q, e, e1, e2⟩ := itoa_head n
  obtain ⟨d, r, rfl, hd⟩ := symB_cons hl
  rw [e] at h
  simp only [List.cons_append, List.cons.injEq] at h
  obtain ⟨rfl, _⟩ := h
  obtain ⟨_, a, b⟩ := low_no hd
  rcases e2 with e2 | e2
  · exact a e2
  · rw [b] at e2; cases e2
theorem num_str {n : Int} {l R S : List UInt8} (h : Lib.itoa n ++ R = quoteL l ++ S) : False := by
  obtain ⟨c, q, e, e1, e2⟩ := itoa_head n
  rw [e] at h
  simp only [quoteL, List.cons_append, List.cons.injEq] at h
  obtain ⟨rfl, _⟩ := h
  exact e1 rfl
theorem sym_str {l m R S : List UInt8} (hl : symB l = true) (h : l ++ R = quoteL m ++ S) : False := by
  obtain ⟨d, r, rfl, hd⟩ := symB_cons hl
  simp only [quoteL, List.cons_append, List.cons.injEq] at h
  obtain ⟨rfl, _⟩ := h
  exact (low_no hd).1 rfl

theorem text_inj {v w : Vl} {R S : List UInt8} (hv : rightB v.1 v.2.1 v.2.2 = true) (hw : rightB w.1 w.2.1 w.2.2 = true) (hR : Behind R) (hS : Behind S)
    (h : textL v.1 v.2.1 v.2.2 ++ R = textL w.1 w.2.1 w.2.2 ++ S) : v = w ∧ R = S := by
  rcases kd_of hv with ⟨n, ⟨n0, n1⟩, e, t⟩ | ⟨l, hl, e, t⟩ | ⟨l, e, t⟩
  · rw [t] at h
    rcases kd_of hw with ⟨m, ⟨m0, m1⟩, e', t'⟩ | ⟨m, hm, e', t'⟩ | ⟨m, e', t'⟩
    · rw [t'] at h
      obtain ⟨h1, h2⟩ := span_inj (itoa_numB n) (itoa_numB m) (hR.no (by decide) (by decide)) (hS.no (by decide) (by decide)) h
      have := itoa_inj n0 n1 m0 m1 h1
      exact ⟨by rw [e, e', this], h2⟩
    · rw [t'] at h; exact (num_sym hm h).elim
    · rw [t'] at h; exact (num_str h).elim
  · rw [t] at h
    rcases kd_of hw with ⟨m, ⟨m0, m1⟩, e', t'⟩ | ⟨m, hm, e', t'⟩ | ⟨m, e', t'⟩
    · rw [t'] at h; exact (num_sym hl h.symm).elim
    · rw [t'] at h
      obtain ⟨h1, h2⟩ := span_inj (symB_inn hl) (symB_inn hm) (hR.no (by decide) (by decide)) (hS.no (by decide) (by decide)) h
      exact ⟨by rw [e, e', h1], h2⟩
    · rw [t'] at h; exact (sym_str hl h).elim
  · rw [t] at h
    rcases kd_of hw with ⟨m, ⟨m0, m1⟩, e', t'⟩ | ⟨m, hm, e', t'⟩ | ⟨m, e', t'⟩
    · rw [t'] at h; exact (num_str h.symm).elim
    · rw [t'] at h; exact (sym_str hm h.symm).elim
    · rw [t'] at h
      simp only [quoteL, List.cons_append, List.append_assoc, List.cons.injEq, true_and, List.nil_append] at h
      obtain ⟨h1, h2⟩ := escq_inj h
      exact ⟨by rw [e, e', h1], h2⟩

def rightV (v : Vl) : Bool := rightB v.1 v.2.1 v.2.2
theorem behind_join (r : List Vl) : Behind (joinL [44, 32] r ++ [41]) := by
  cases r with
  | nil => exact ⟨41, [], rfl, Or.inr rfl⟩
  | cons v q => exact ⟨44, _, rfl, Or.inl rfl⟩
theorem join_inj {a b : List Vl} {u : List UInt8} {c : UInt8} (hc : c ≠ 41) (ha : ∀ v ∈ a, rightV v = true) (hb : ∀ v ∈ b, rightV v = true) (h : joinL (c :: u) a ++ [41] = joinL (c :: u) b ++ [41]) : a = b := by
  induction a generalizing b c u with
  | nil =>
    cases b with
    | nil => rfl
    | cons w s =>
      simp only [joinL, List.nil_append, List.cons_append, List.cons.injEq] at h
      exact absurd h.1.symm hc
  | cons v r ih =>
    cases b with
    | nil =>
      simp only [joinL, List.nil_append, List.cons_append, List.cons.injEq] at h
      exact absurd h.1 hc
    | cons w s =>
      simp only [joinL, List.append_assoc] at h
      have h2 := List.append_cancel_left h
      obtain ⟨e, h3⟩ := text_inj (ha v (by simp)) (hb w (by simp)) (behind_join r) (behind_join s) h2
      rw [e, ih (by decide) (fun x hx => ha x (by simp [hx])) (fun x hx => hb x (by simp [hx])) h3]

/-- The words that are no names. -/
def wordsL : List (List UInt8) := [[102, 97, 99, 116], [114, 117, 108, 101], [112, 97, 116, 116, 101, 114, 110], [110, 111, 116], [97, 110, 100], [111, 114], [98, 101, 102, 111, 114, 101], [111, 110, 99, 101], [97, 108, 119, 97, 121, 115], [115, 105, 110, 99, 101], [100, 114, 111, 112]]
def nameB (l : List UInt8) : Bool := symB l && !wordsL.contains l
def rightF (a : Fc) : Bool := nameB a.1 && (decide (a.2.length ≤ 5) && a.2.all rightV)

theorem textF_inj {a b : Fc} (ha : rightF a = true) (hb : rightF b = true) (h : textF a = textF b) : a = b := by
  obtain ⟨n, x⟩ := a
  obtain ⟨m, y⟩ := b
  simp only [rightF, nameB, Bool.and_eq_true] at ha hb
  have hx := List.all_eq_true.1 ha.2.2
  have hy := List.all_eq_true.1 hb.2.2
  simp only [textF] at h
  have hd : ∀ z : List Vl, ∀ c ∈ (joinL [40] z ++ if z.isEmpty then [] else [41]).head?, innB c = false := by
    intro z c hc
    cases z with
    | nil => simp [joinL] at hc
    | cons v r => simp [joinL] at hc; subst hc; decide
  obtain ⟨h1, h2⟩ := span_inj (symB_inn ha.1.1) (symB_inn hb.1.1) (hd x) (hd y) h
  subst h1
  have : x = y := by
    cases x with
    | nil =>
      cases y with
      | nil => rfl
      | cons w s => simp [joinL] at h2
    | cons v r =>
      cases y with
      | nil => simp [joinL] at h2
      | cons w s =>
        simp only [List.isEmpty_cons, Bool.false_eq_true, if_false] at h2
        exact join_inj (by decide) hx hy h2
  rw [this]
end Go.Proofs.YtcjnhhbcleljmaaGreatDoor.V
namespace Go.Proofs.YtcjnhhbcleljmaaGreatDoor.V

section
variable {α : Type} {f : α → α → Int}

/-- Each ahead of all behind it. -/
def Rise (f : α → α → Int) (l : List α) : Prop := l.Pairwise (fun a b => f a b = -1)
/-- .. by neighbours, as a program asks it. -/
def riseB (f : α → α → Int) : List α → Bool
  | [] => true
  | [_] => true
  | a :: b :: r => decide (f a b < 0) && riseB f (b :: r)

theorem lt_neg (O : Ord3 f) {a b : α} : f a b < 0 ↔ f a b = -1 := by
  have := O.tri a b
  omega
theorem self_zero (O : Ord3 f) (a : α) : f a a = 0 := (O.zero a a).2 rfl

theorem rise_of_B (O : Ord3 f) : ∀ {l : List α}, riseB f l = true → Rise f l
  | [], _ => List.Pairwise.nil
  | [_], _ => by simp [Rise]
  | a :: b :: r, h => by
    simp only [riseB, Bool.and_eq_true, decide_eq_true_eq] at h
    have hr := rise_of_B O (l := b :: r) h.2
    have hab := (lt_neg O).1 h.1
    refine List.Pairwise.cons (fun y hy => ?_) hr
    rcases List.mem_cons.1 hy with rfl | hy
    · exact hab
    · exact O.trans a b y hab ((List.pairwise_cons.1 hr).1 y hy)
theorem B_of_rise : ∀ {l : List α}, Rise f l → riseB f l = true
  | [], _ => rfl
  | [_], _ => rfl
  | a :: b :: r, h => by
    have h' := List.pairwise_cons.1 h
    simp only [riseB, Bool.and_eq_true, decide_eq_true_eq]
    refine ⟨?_, B_of_rise h'.2⟩
    have := h'.1 b (by simp)
    omega

/-- Two rising lists with the same members are one. -/
theorem rise_ext (O : Ord3 f) : ∀ {l m : List α}, Rise f l → Rise f m → (∀ x, x ∈ l ↔ x ∈ m) → l = m
  | [], [], _, _, _ => rfl
  | [], b :: m, _, _, h => by have := (h b).2 (by simp); simp at this
  | a :: l, [], _, _, h => by have := (h a).1 (by simp); simp at this
  | a :: l, b :: m, hl, hm, h => by
    have hl' := List.pairwise_cons.1 hl
    have hm' := List.pairwise_cons.1 hm
    have hab : a = b := by
      rcases List.mem_cons.1 ((h a).1 (by simp)) with e | ha
      · exact e
      · rcases List.mem_cons.1 ((h b).2 (by simp)) with e | hb
        · exact e.symm
        · have h1 := hm'.1 a ha
          have h2 := hl'.1 b hb
          have := O.anti a b
          omega
    subst hab
    congr 1
    refine rise_ext O hl'.2 hm'.2 (fun x => ?_)
    have z := self_zero O a
    constructor
    · intro hx
      rcases List.mem_cons.1 ((h x).1 (List.mem_cons_of_mem _ hx)) with e | hx'
      · subst e; have := hl'.1 x hx; omega
      · exact hx'
    · intro hx
      rcases List.mem_cons.1 ((h x).2 (List.mem_cons_of_mem _ hx)) with e | hx'
      · subst e; have := hm'.1 x hx; omega
      · exact hx'

/-- Into its place. -/
def insL (f : α → α → Int) (x : α) : List α → List α
  | [] => [x]
  | y :: r => if f x y < 0 then x :: y :: r else y :: insL f x r
theorem mem_ins (x y : α) : ∀ l : List α, y ∈ insL f x l ↔ y = x ∨ y ∈ l
  | [] => by simp [insL]
  | z :: r => by
    unfold insL
    split
    · simp
    · rw [List.mem_cons, mem_ins x y r, List.mem_cons]
      constructor
      · rintro (h | h | h)
        · exact Or.inr (Or.inl h)
        · exact Or.inl h
        · exact Or.inr (Or.inr h)
      · rintro (h | h | h)
        · exact Or.inr (Or.inl h)
        · exact Or.inl h
        · exact Or.inr (Or.inr h)
theorem rise_ins (O : Ord3 f) (x : α) : ∀ {l : List α}, Rise f l → x ∉ l → Rise f (insL f x l)
  | [], _, _ => by simp [insL, Rise]
  | y :: r, h, hx => by
    have h' := List.pairwise_cons.1 h
    unfold insL
    split
    · rename_i hlt
      have hxy := (lt_neg O).1 hlt
      refine List.Pairwise.cons (fun z hz => ?_) h
      rcases List.mem_cons.1 hz with rfl | hz
      · exact hxy
      · exact O.trans x y z hxy (h'.1 z hz)
    · rename_i hlt
      have hyx : f y x = -1 := by
        have h1 := O.tri x y
        have h2 := O.anti x y
        have h3 : f x y ≠ 0 := fun e => hx (by rw [(O.zero x y).1 e]; simp)
        omega
      refine List.Pairwise.cons (fun z hz => ?_) (rise_ins O x h'.2 (fun hm => hx (List.mem_cons_of_mem _ hm)))
      rcases (mem_ins x z r).1 hz with rfl | hz
      · exact hyx
      · exact h'.1 z hz
theorem len_ins (x : α) : ∀ l : List α, (insL f x l).length = l.length + 1
  | [] => rfl
  | y :: r => by
    unfold insL
    split
    · simp
    · simp [len_ins x r]

/-- A sorted list without neighbours that are the same is rising: what a sort and a squeeze leave. -/
theorem rise_sorted (O : Ord3 f) {l : List α} (h : l.Pairwise (fun a b => f a b ≤ 0)) (hn : l.Nodup) : Rise f l := by
  refine (List.Pairwise.and h hn).imp ?_
  rintro a b ⟨h1, h2⟩
  have h3 := O.tri a b
  have h4 : f a b ≠ 0 := fun e => h2 ((O.zero a b).1 e)
  omega
theorem rise_nodup (O : Ord3 f) {l : List α} (h : Rise f l) : l.Nodup := by
  refine List.Pairwise.imp ?_ h
  intro a b hab e
  subst e
  have := self_zero O a
  omega
variable [DecidableEq α]
/-- With one. -/
def putL (f : α → α → Int) (l : List α) (x : α) : List α := if x ∈ l then l else insL f x l
theorem mem_put (x y : α) (l : List α) : y ∈ putL f l x ↔ y = x ∨ y ∈ l := by
  unfold putL
  split
  · rename_i h
    constructor
    · exact Or.inr
    · rintro (rfl | h')
      · exact h
      · exact h'
  · exact mem_ins x y l
theorem rise_put (O : Ord3 f) {x : α} {l : List α} (h : Rise f l) : Rise f (putL f l x) := by
  unfold putL
  split
  · exact h
  · rename_i hx; exact rise_ins O x h hx
/-- All of a list, put one by one. -/
def ofL (f : α → α → Int) (l : List α) : List α := l.foldl (putL f) []
theorem foldl_put (O : Ord3 f) (l : List α) : ∀ acc : List α, Rise f acc → Rise f (l.foldl (putL f) acc) ∧ ∀ y, y ∈ l.foldl (putL f) acc ↔ y ∈ acc ∨ y ∈ l := by
  induction l with
  | nil => intro acc h; exact ⟨h, fun y => by simp⟩
  | cons x r ih =>
    intro acc h
    obtain ⟨h1, h2⟩ := ih (putL f acc x) (rise_put O h)
    refine ⟨h1, fun y => ?_⟩
    rw [List.foldl_cons, h2, mem_put, List.mem_cons]
    constructor
    · rintro ((h | h) | h)
      · exact Or.inr (Or.inl h)
      · exact Or.inl h
      · exact Or.inr (Or.inr h)
    · rintro (h | h | h)
      · exact Or.inl (Or.inr h)
      · exact Or.inl (Or.inl h)
      · exact Or.inr h
theorem rise_of (O : Ord3 f) (l : List α) : Rise f (ofL f l) := (foldl_put O l [] List.Pairwise.nil).1
theorem mem_of (O : Ord3 f) (l : List α) (y : α) : y ∈ ofL f l ↔ y ∈ l := by
  have := (foldl_put O l [] List.Pairwise.nil).2 y
  simpa [ofL] using this
/-- Whatever the order, it is one set. -/
theorem of_same (O : Ord3 f) {l m : List α} (h : ∀ x, x ∈ l ↔ x ∈ m) : ofL f l = ofL f m :=
  rise_ext O (rise_of O l) (rise_of O m) (fun x => by rw [mem_of O, mem_of O]; exact h x)
theorem of_rise (O : Ord3 f) {l : List α} (h : Rise f l) : ofL f l = l :=
  rise_ext O (rise_of O l) h (fun x => mem_of O l x)
/-- Whatever rises with just the members of a list is the set of it. -/
theorem is_of (O : Ord3 f) {l m : List α} (h : Rise f m) (hm : ∀ x, x ∈ m ↔ x ∈ l) : m = ofL f l :=
  rise_ext O h (rise_of O l) (fun x => by rw [mem_of O]; exact hm x)
/-- Without one. -/
def dropL (l : List α) (x : α) : List α := l.filter (fun y => decide (y ≠ x))
theorem mem_drop' (x y : α) (l : List α) : y ∈ dropL l x ↔ y ∈ l ∧ y ≠ x := by simp [dropL]
theorem rise_drop {x : α} {l : List α} (h : Rise f l) : Rise f (dropL l x) := h.filter _
theorem drop_put (O : Ord3 f) {x : α} {l : List α} (h : Rise f l) (hx : x ∉ l) : dropL (putL f l x) x = l := by
  refine rise_ext O (rise_drop (rise_put O h)) h (fun y => ?_)
  rw [mem_drop', mem_put]
  constructor
  · rintro ⟨h1 | h1, h2⟩
    · exact absurd h1 h2
    · exact h1
  · intro hy
    exact ⟨Or.inr hy, fun e => hx (e ▸ hy)⟩
theorem drop_none {x : α} {l : List α} (hx : x ∉ l) : dropL l x = l := by
  unfold dropL
  rw [List.filter_eq_self]
  intro y hy
  simp
  intro e
  exact hx (e ▸ hy)
end
end Go.Proofs.YtcjnhhbcleljmaaGreatDoor.V
namespace Go.Proofs.YtcjnhhbcleljmaaGreatDoor.V

/-- A value: kind, number, bytes. -/
abbrev Vv := Int × Int × ByteArray
/-- A variable's value. -/
abbrev Bb := ByteArray × Vv

theorem bytes_ext {a b : ByteArray} (h : a.data.toList = b.data.toList) : a = b := by
  obtain ⟨⟨x⟩⟩ := a
  obtain ⟨⟨y⟩⟩ := b
  simp at h
  rw [h]

def rightVv (v : Vv) : Bool := rightB v.1 v.2.1 v.2.2.data.toList
/-- A large letter, then letters, digits, _; 24 at the most. -/
def varB : List UInt8 → Bool
  | [] => false
  | c :: r => decide (r.length + 1 ≤ 24) && (upB c.toNat && (c :: r).all innB)
def rightBd (x : Bb) : Bool := varB x.1.data.toList && rightVv x.2
def byV (x y : Bb) : Int := Lib.compareBytes x.1.data.toList y.1.data.toList
/-- By variable, then by value. -/
def cmpB (x y : Bb) : Int := if byV x y ≠ 0 then byV x y else cmpV (x.2.1, x.2.2.1, x.2.2.2.data.toList) (y.2.1, y.2.2.1, y.2.2.2.data.toList)
theorem ord_bind : Ord3 cmpB :=
  ord_then (f := Lib.compareBytes) (g := cmpV) ord_bytes ord_val (fun x : Bb => x.1.data.toList) (fun x : Bb => (x.2.1, x.2.2.1, x.2.2.2.data.toList)) (by
    rintro ⟨n, k, m, s⟩ ⟨n', k', m', s'⟩ h1 h2
    simp only [Prod.mk.injEq] at h2 ⊢
    exact ⟨bytes_ext h1, h2.1, h2.2.1, bytes_ext h2.2.2⟩)
theorem byV_zero {x y : Bb} : byV x y = 0 ↔ x.1 = y.1 := by
  unfold byV
  rw [ord_bytes.zero]
  exact ⟨bytes_ext, fun h => by rw [h]⟩
theorem byV_tri (x y : Bb) : byV x y = -1 ∨ byV x y = 0 ∨ byV x y = 1 := ord_bytes.tri _ _
theorem byV_anti (x y : Bb) : byV y x = - byV x y := ord_bytes.anti _ _
theorem byV_trans (x y z : Bb) (h : byV x y = -1) (k : byV y z = -1) : byV x z = -1 := ord_bytes.trans _ _ _ h k
theorem cmpB_of {x y : Bb} (h : byV x y = -1) : cmpB x y = -1 := by unfold cmpB; rw [if_pos (by omega)]; exact h

/-- A right list. -/
def listB (l : List Bb) : Bool := decide (l.length ≤ 100) && (l.all rightBd && riseB byV l)
/-- Its first k are right, and rise. -/
def Seen (l : List Bb) (k : Nat) : Prop := (∀ j (_ : j < l.length), j < k → rightBd l[j] = true) ∧ (∀ j (_ : j + 1 < l.length), j + 1 < k → byV l[j] l[j + 1] < 0)
theorem riseB_iff {α : Type} {f : α → α → Int} : ∀ {l : List α}, riseB f l = true ↔ ∀ i (h : i + 1 < l.length), f l[i] l[i + 1] < 0
  | [] => by simp [riseB]
  | [_] => by simp [riseB]
  | a :: b :: r => by
    simp only [riseB, Bool.and_eq_true, decide_eq_true_eq]
    rw [riseB_iff (l := b :: r)]
    constructor
    · rintro ⟨h0, h1⟩ i hi
      match i with
      | 0 => exact h0
      | i + 1 => exact h1 i (by simpa using hi)
    · intro h
      exact ⟨h 0 (by simp), fun i hi => h (i + 1) (by simpa using hi)⟩
theorem listB_iff {l : List Bb} : listB l = true ↔ l.length ≤ 100 ∧ Seen l l.length := by
  simp only [listB, Bool.and_eq_true, decide_eq_true_eq, List.all_eq_true, riseB_iff, Seen]
  constructor
  · rintro ⟨h0, h1, h2⟩
    exact ⟨h0, fun j hj _ => h1 _ (List.getElem_mem hj), fun j hj _ => h2 j hj⟩
  · rintro ⟨h0, h1, h2⟩
    refine ⟨h0, fun x hx => ?_, fun j hj => h2 j hj hj⟩
    obtain ⟨j, hj, rfl⟩ := List.getElem_of_mem hx
    exact h1 j hj hj
theorem seen_zero (l : List Bb) : Seen l 0 := ⟨fun j _ h => by omega, fun j _ h => by omega⟩
theorem seen_next {l : List Bb} {k : Nat} (h : Seen l k) (hk : k < l.length) (hr : rightBd l[k] = true) (hb : ∀ j (_ : j + 1 = k), byV l[j] l[k] < 0) : Seen l (k + 1) := by
  refine ⟨fun j hj hjk => ?_, fun j hj hjk => ?_⟩
  · by_cases e : j < k
    · exact h.1 j hj e
    · have : j = k := by omega
      subst this; exact hr
  · by_cases e : j + 1 < k
    · exact h.2 j hj e
    · have e' : j + 1 = k := by omega
      subst e'
      exact hb j rfl
theorem list_t {l : List Bb} (h : l.length ≤ 100) (k : Seen l l.length) : listB l = true := listB_iff.2 ⟨h, k⟩
theorem list_long {l : List Bb} (h : 100 < l.length) : listB l = false := by
  rw [← Bool.not_eq_true, listB_iff]; omega
theorem list_bad {l : List Bb} {k : Nat} (hk : k < l.length) (hr : rightBd l[k] = false) : listB l = false := by
  rw [← Bool.not_eq_true, listB_iff]
  rintro ⟨_, h, _⟩
  have := h k hk hk
  rw [hr] at this; cases this
theorem list_fall {l : List Bb} {j : Nat} (hj : j + 1 < l.length) (hr : ¬ byV l[j] l[j + 1] < 0) : listB l = false := by
  rw [← Bool.not_eq_true, listB_iff]
  rintro ⟨_, _, h⟩
  exact hr (h j hj hj)

theorem riseV_pair {l : List Bb} (h : riseB byV l = true) : l.Pairwise (fun x y => byV x y = -1) := by
  match l, h with
  | [], _ => exact List.Pairwise.nil
  | [_], _ => simp
  | a :: b :: r, h =>
    simp only [riseB, Bool.and_eq_true, decide_eq_true_eq] at h
    have hr := riseV_pair (l := b :: r) h.2
    have hab : byV a b = -1 := by have := byV_tri a b; omega
    refine List.Pairwise.cons (fun y hy => ?_) hr
    rcases List.mem_cons.1 hy with rfl | hy
    · exact hab
    · exact byV_trans a b y hab ((List.pairwise_cons.1 hr).1 y hy)
theorem list_pair {l : List Bb} (h : listB l = true) : l.Pairwise (fun x y => byV x y = -1) := by
  simp only [listB, Bool.and_eq_true] at h
  exact riseV_pair h.2.2
theorem list_rise {l : List Bb} (h : listB l = true) : Rise cmpB l := (list_pair h).imp cmpB_of
theorem list_len {l : List Bb} (h : listB l = true) : l.length ≤ 100 := (listB_iff.1 h).1
theorem list_right {l : List Bb} (h : listB l = true) {x : Bb} (hx : x ∈ l) : rightBd x = true := by
  simp only [listB, Bool.and_eq_true, List.all_eq_true] at h
  exact h.2.1 x hx
/-- Of a right list no variable has two values. -/
theorem list_one {l : List Bb} (h : listB l = true) {x y : Bb} (hx : x ∈ l) (hy : y ∈ l) (e : x.1 = y.1) : x = y := by
  have hp := list_pair h
  rw [List.pairwise_iff_getElem] at hp
  obtain ⟨i, hi, rfl⟩ := List.getElem_of_mem hx
  obtain ⟨j, hj, rfl⟩ := List.getElem_of_mem hy
  have e0 := byV_zero.2 e
  have e1 := byV_zero.2 e.symm
  by_cases hij : i < j
  · have := hp i j hi hj hij; omega
  · by_cases hji : j < i
    · have := hp j i hj hi hji; omega
    · have : i = j := by omega
      subst this; rfl
/-- Rising, each right, no variable twice, not too many: right. -/
theorem list_of {l : List Bb} (hr : Rise cmpB l) (hl : l.length ≤ 100) (ha : ∀ x ∈ l, rightBd x = true) (hn : ∀ x ∈ l, ∀ y ∈ l, x.1 = y.1 → x = y) : listB l = true := by
  simp only [listB, Bool.and_eq_true, decide_eq_true_eq, List.all_eq_true]
  refine ⟨hl, ha, riseB_iff.2 (fun i hi => ?_)⟩
  have hp := List.pairwise_iff_getElem.1 hr i (i + 1) (by omega) hi (by omega)
  by_cases hz : byV l[i] l[i + 1] = 0
  · have e := hn _ (List.getElem_mem (by omega)) _ (List.getElem_mem hi) (byV_zero.1 hz)
    rw [e, self_zero ord_bind] at hp
    omega
  · simp only [cmpB, hz, ne_eq, not_false_eq_true, if_true] at hp
    omega
/-- A rising list of some of a right list's is right. -/
theorem list_sub {l m : List Bb} (h : listB m = true) (hr : Rise cmpB l) (hs : ∀ x ∈ l, x ∈ m) : listB l = true :=
  list_of hr (Nat.le_trans (List.Nodup.length_le_of_subset (rise_nodup ord_bind hr) hs) (list_len h)) (fun x hx => list_right h (hs x hx)) (fun x hx y hy e => list_one h (hs x hx) (hs y hy) e)

/-- What two lists are together. -/
def unL (a b : List Bb) : List Bb := ofL cmpB (a ++ b)
def bothR (a b : List Bb) : List Bb × Bool := if listB a = true ∧ listB b = true ∧ listB (unL a b) = true then (unL a b, true) else ([], false)
theorem both_t {a b : List Bb} (h : listB a = true) (k : listB b = true) (u : listB (unL a b) = true) : bothR a b = (unL a b, true) := if_pos ⟨h, k, u⟩
theorem both_f {a b : List Bb} (h : ¬ (listB a = true ∧ listB b = true ∧ listB (unL a b) = true)) : bothR a b = ([], false) := if_neg h
theorem both_ok {a b us : List Bb} (h : bothR a b = (us, true)) : listB a = true ∧ listB b = true ∧ listB us = true ∧ us = unL a b := by
  unfold bothR at h
  split at h
  · rename_i g
    simp only [Prod.mk.injEq, and_true] at h
    subst h
    exact ⟨g.1, g.2.1, g.2.2, rfl⟩
  · simp at h
theorem both_no {a b us : List Bb} (h : bothR a b = (us, false)) : us = [] := by
  unfold bothR at h
  split at h
  · simp at h
  · simp only [Prod.mk.injEq, and_true] at h
    exact h.symm
theorem both_list {a b us : List Bb} {ok : Bool} (h : bothR a b = (us, ok)) : listB us = true := by
  cases ok with
  | true => exact (both_ok h).2.2.1
  | false => rw [both_no h]; rfl
theorem mem_un {a b : List Bb} {x : Bb} : x ∈ unL a b ↔ x ∈ a ∨ x ∈ b := by
  unfold unL; rw [mem_of ord_bind, List.mem_append]
theorem un_comm (a b : List Bb) : unL a b = unL b a := of_same ord_bind (fun x => by rw [List.mem_append, List.mem_append]; exact Or.comm)
theorem both_comm (a b : List Bb) : bothR a b = bothR b a := by
  unfold bothR
  rw [un_comm a b]
  by_cases h1 : listB a = true <;> by_cases h2 : listB b = true <;> simp [h1, h2]
theorem un_eq {a b c : List Bb} (hc : Rise cmpB c) (h : ∀ x, x ∈ c ↔ x ∈ a ∨ x ∈ b) : unL a b = c :=
  (is_of ord_bind hc (fun x => by rw [h, List.mem_append])).symm
theorem rise_un (a b : List Bb) : Rise cmpB (unL a b) := rise_of ord_bind _

/-- What is got. -/
def getL (l : List Bb) (n : ByteArray) : Option Vv := (l.find? (fun x => decide (x.1 = n))).map Prod.snd
theorem get_none {l : List Bb} {n : ByteArray} (h : ∀ x ∈ l, x.1 ≠ n) : getL l n = none := by
  unfold getL
  rw [List.find?_eq_none.2 (fun x hx => by simpa using h x hx)]; rfl
theorem get_mem {l : List Bb} {n : ByteArray} {v : Vv} (h : getL l n = some v) : (n, v) ∈ l := by
  unfold getL at h
  rw [Option.map_eq_some_iff] at h
  obtain ⟨x, hx, rfl⟩ := h
  have h1 := List.find?_some hx
  have h2 := List.mem_of_find?_eq_some hx
  simp only [decide_eq_true_eq] at h1
  obtain ⟨n', v'⟩ := x
  simp only at h1
  subst h1
  exact h2
theorem get_some {l : List Bb} (hl : listB l = true) {n : ByteArray} {v : Vv} (h : (n, v) ∈ l) : getL l n = some v := by
  cases hg : getL l n with
  | none =>
    unfold getL at hg
    rw [Option.map_eq_none_iff, List.find?_eq_none] at hg
    have := hg (n, v) h
    simp at this
  | some u =>
    have := list_one hl h (get_mem hg) rfl
    simp only [Prod.mk.injEq, true_and] at this
    rw [this]
theorem get_iff {l : List Bb} (hl : listB l = true) {n : ByteArray} {v : Vv} : getL l n = some v ↔ (n, v) ∈ l := ⟨get_mem, get_some hl⟩
/-- The first of that name. -/
theorem get_first {l : List Bb} {n : ByteArray} {k : Nat} (hk : k < l.length) (hb : ∀ j (_ : j < l.length), j < k → l[j].1 ≠ n) (h : l[k].1 = n) : getL l n = some l[k].2 := by
  unfold getL
  have : l.find? (fun x => decide (x.1 = n)) = some l[k] := by
    rw [List.find?_eq_some_iff_getElem]
    refine ⟨by simp [h], k, hk, rfl, fun j hj => ?_⟩
    simpa using hb j (by omega) hj
  rw [this]; rfl
theorem get_end {l : List Bb} {n : ByteArray} (hb : ∀ j (_ : j < l.length), l[j].1 ≠ n) : getL l n = none := by
  refine get_none (fun x hx => ?_)
  obtain ⟨j, hj, rfl⟩ := List.getElem_of_mem hx
  exact hb j hj
end Go.Proofs.YtcjnhhbcleljmaaGreatDoor.V
