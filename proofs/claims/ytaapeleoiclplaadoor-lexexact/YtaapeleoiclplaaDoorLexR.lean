/- All the signs of a text: what each is, where it stands; joined with blanks and comments between they are the same. No program in it. -/
import Derived.Test.YtaapeleoiclplaaDoorLexQ
namespace Go.Proofs.YtaapeleoiclplaaDoor.V

/-- A sign that may stand anywhere: right, and begun by no blank, no comment. -/
def Good (R : Int → List UInt8 → Bool) (t : Tk) : Prop :=
  R t.1 t.2.1 = true ∧ headB blankB t.2.1 = false ∧ headB (· == 37) t.2.1 = false ∧ ∃ r0, signL (t.2.1 ++ r0) = some (t.1, t.2.1.length)
/-- Each stands at its place, behind the one ahead of it. -/
def Spots (s : List UInt8) : Nat → List Tk → Prop
  | _, [] => True
  | p, t :: ts => p ≤ t.2.2 ∧ t.2.2 + t.2.1.length ≤ s.length ∧ (s.drop t.2.2).take t.2.1.length = t.2.1 ∧ 1 ≤ t.2.1.length ∧ Spots s (t.2.2 + t.2.1.length) ts
/-- How a step goes on: a blank, a comment, no sign, a wrong one, a sign. -/
theorem lex_step (R : Int → List UInt8 → Bool) (c : UInt8) (r : List UInt8) (q : Nat) :
    (blankB c = true ∧ lexA R (c :: r) q = lexA R r (q + 1)) ∨
    (blankB c = false ∧ c = 37 ∧ 1 ≤ ((c :: r).takeWhile (· != 10)).length ∧ ((c :: r).takeWhile (· != 10)).length ≤ (c :: r).length ∧ lexA R (c :: r) q = lexA R ((c :: r).drop ((c :: r).takeWhile (· != 10)).length) (q + ((c :: r).takeWhile (· != 10)).length)) ∨
    (blankB c = false ∧ c ≠ 37 ∧ (signL (c :: r) = none ∨ ∃ k n, signL (c :: r) = some (k, n) ∧ R k ((c :: r).take n) = false) ∧ lexA R (c :: r) q = .error q) ∨
    (blankB c = false ∧ c ≠ 37 ∧ ∃ k n, signL (c :: r) = some (k, n) ∧ 1 ≤ n ∧ R k ((c :: r).take n) = true ∧ lexA R (c :: r) q = (match lexA R ((c :: r).drop n) (q + n) with
      | .ok ts => .ok ((k, (c :: r).take n, q) :: ts)
      | .error e => .error e)) := by
  by_cases h1 : blankB c = true
  · exact Or.inl ⟨h1, lexA_blank h1⟩
  have h1' : blankB c = false := by simpa using h1
  by_cases h2 : c = 37
  · subst h2
    exact Or.inr (Or.inl ⟨h1', rfl, comment_pos r, List.Sublist.length_le (List.takeWhile_sublist _), lexA_comment⟩)
  cases hs : signL (c :: r) with
  | none => exact Or.inr (Or.inr (Or.inl ⟨h1', h2, Or.inl rfl, lexA_none h1' h2 hs⟩))
  | some kn =>
    obtain ⟨k, n⟩ := kn
    by_cases hr : R k ((c :: r).take n) = true
    · exact Or.inr (Or.inr (Or.inr ⟨h1', h2, k, n, rfl, signL_pos hs, hr, lexA_sign h1' h2 hs hr⟩))
    · have hr' : R k ((c :: r).take n) = false := by simpa using hr
      exact Or.inr (Or.inr (Or.inl ⟨h1', h2, Or.inr ⟨k, n, rfl, hr'⟩, lexA_wrong h1' h2 hs hr'⟩))
/-- A sign is no longer than the bytes. -/
theorem strN_le : ∀ (m : Nat) {l : List UInt8} {n : Nat}, l.length ≤ m → strN l = some n → n ≤ l.length := by
  intro m
  induction m with
  | zero =>
    intro l n hm h
    have : l = [] := List.eq_nil_of_length_eq_zero (by omega)
    subst this
    cases h
  | succ m ih =>
    intro l n hm h
    cases l with
    | nil => cases h
    | cons a y =>
      rw [strN_cons] at h
      by_cases h1 : a = 34
      · rw [if_pos h1] at h; cases h; simp
      rw [if_neg h1] at h
      by_cases h2 : a = 92
      · rw [if_pos h2] at h
        cases y with
        | nil => cases h
        | cons d y =>
          simp only [Option.map_eq_some_iff, List.length_cons] at h ⊢
          obtain ⟨k, hk, rfl⟩ := h
          have := ih (by simp at hm; omega) hk
          omega
      · rw [if_neg h2] at h
        simp only [Option.map_eq_some_iff, List.length_cons] at h ⊢
        obtain ⟨k, hk, rfl⟩ := h
        have := ih (by simp at hm; omega) hk
        omega
theorem signL_le {l : List UInt8} {k : Int} {n : Nat} (h : signL l = some (k, n)) : n ≤ l.length := by
  cases l with
  | nil => cases h
  | cons c r =>
    have t1 : (r.takeWhile innB).length ≤ r.length := List.Sublist.length_le (List.takeWhile_sublist _)
    have t2 : (r.takeWhile digC).length ≤ r.length := List.Sublist.length_le (List.takeWhile_sublist _)
    rw [signL_cons] at h
    by_cases h1 : letB c = true
    · rw [if_pos h1] at h
      have := (Prod.mk.inj (Option.some.inj h)).2
      simp; omega
    rw [if_neg h1] at h
    by_cases h2 : (digC c || (c == 45 && headB digC r)) = true
    · rw [if_pos h2] at h
      have := (Prod.mk.inj (Option.some.inj h)).2
      simp; omega
    rw [if_neg h2] at h
    by_cases h3 : c = 34
    · rw [if_pos h3] at h
      simp only [Option.map_eq_some_iff] at h
      obtain ⟨m, hm, e⟩ := h
      have := (Prod.mk.inj e).2
      have := strN_le _ (Nat.le_refl _) hm
      simp; omega
    rw [if_neg h3] at h
    by_cases h4 : headB (twoB c) r = true
    · rw [if_pos h4] at h
      have := (Prod.mk.inj (Option.some.inj h)).2
      cases r with
      | nil => cases h4
      | cons d r => simp; omega
    rw [if_neg h4] at h
    by_cases h5 : singB c = true
    · rw [if_pos h5] at h
      have := (Prod.mk.inj (Option.some.inj h)).2
      simp; omega
    · rw [if_neg h5] at h
      cases h
/-- What is said of signs that are read, and of the place where none begins. -/
theorem lex_all {R : Int → List UInt8 → Bool} {s : List UInt8} : ∀ (m : Nat) {q : Nat}, q ≤ s.length → s.length - q ≤ m →
    (∀ ts, lexA R (s.drop q) q = .ok ts → (∀ t ∈ ts, Good R t) ∧ Spots s q ts) ∧ (∀ e, lexA R (s.drop q) q = .error e → q ≤ e ∧ e < s.length) := by
  intro m
  induction m with
  | zero =>
    intro q hq hm
    have hd : s.drop q = [] := List.drop_eq_nil_of_le (by omega)
    rw [hd, lexA_nil]
    refine ⟨fun ts h => ?_, fun e h => by cases h⟩
    cases h
    exact ⟨by simp, trivial⟩
  | succ m ih =>
    intro q hq hm
    by_cases hlt : q < s.length
    case neg =>
      have hd : s.drop q = [] := List.drop_eq_nil_of_le (by omega)
      rw [hd, lexA_nil]
      refine ⟨fun ts h => ?_, fun e h => by cases h⟩
      cases h
      exact ⟨by simp, trivial⟩
    obtain ⟨c, r, hcr⟩ : ∃ c r, s.drop q = c :: r := ⟨s[q], s.drop (q + 1), List.drop_eq_getElem_cons hlt⟩
    have hl : (c :: r).length = s.length - q := by rw [← hcr]; simp
    have hdrop : ∀ n, (c :: r).drop n = s.drop (q + n) := fun n => by rw [← hcr, List.drop_drop]
    rw [hcr]
    rcases lex_step R c r q with ⟨_, h⟩ | ⟨_, _, h1, h2, h⟩ | ⟨_, _, _, h⟩ | ⟨hb, hc, k, n, hs, h1, hr, h⟩
    · rw [h, show r = s.drop (q + 1) from hdrop 1]
      obtain ⟨i1, i2⟩ := ih (q := q + 1) (by omega) (by omega)
      refine ⟨fun ts hts => ?_, fun e he => ?_⟩
      · obtain ⟨g1, g2⟩ := i1 ts hts
        refine ⟨g1, ?_⟩
        cases ts with
        | nil => trivial
        | cons t ts => exact ⟨by have := g2.1; omega, g2.2⟩
      · have := i2 e he; omega
    · rw [h, hdrop]
      generalize ((c :: r).takeWhile (· != 10)).length = n at h1 h2
      obtain ⟨i1, i2⟩ := ih (q := q + n) (by omega) (by omega)
      refine ⟨fun ts hts => ?_, fun e he => ?_⟩
      · obtain ⟨g1, g2⟩ := i1 ts hts
        refine ⟨g1, ?_⟩
        cases ts with
        | nil => trivial
        | cons t ts => exact ⟨by have := g2.1; omega, g2.2⟩
      · have := i2 e he; omega
    · rw [h]
      refine ⟨fun ts hts => (by cases hts), fun e he => ?_⟩
      cases he
      exact ⟨Nat.le_refl _, hlt⟩
    · have hn := signL_le hs
      have htl : ((c :: r).take n).length = n := by rw [List.length_take]; omega
      rw [h, hdrop]
      obtain ⟨i1, i2⟩ := ih (q := q + n) (by omega) (by omega)
      cases hx : lexA R (s.drop (q + n)) (q + n) with
      | error e =>
        refine ⟨fun ts hts => (by cases hts), fun e' he => ?_⟩
        cases he
        have := i2 e hx; omega
      | ok us =>
        refine ⟨fun ts hts => ?_, fun e he => by cases he⟩
        cases hts
        obtain ⟨g1, g2⟩ := i1 us hx
        refine ⟨fun t ht => ?_, ?_⟩
        · rcases List.mem_cons.1 ht with rfl | ht
          · refine ⟨hr, ?_, ?_, (c :: r).drop n, ?_⟩
            · cases n with
              | zero => omega
              | succ n => exact hb
            · cases n with
              | zero => omega
              | succ n => simpa [headB] using hc
            · show signL ((c :: r).take n ++ (c :: r).drop n) = some (k, ((c :: r).take n).length)
              rw [List.take_append_drop, htl]; exact hs
          · exact g1 t ht
        · refine ⟨Nat.le_refl _, ?_, ?_, ?_, ?_⟩
          · show q + ((c :: r).take n).length ≤ s.length
            rw [htl]; omega
          · show (s.drop q).take ((c :: r).take n).length = (c :: r).take n
            rw [htl, hcr]
          · show 1 ≤ ((c :: r).take n).length
            rw [htl]; exact h1
          · show Spots s (q + ((c :: r).take n).length) us
            rw [htl]; exact g2
/-- What stands between signs: it is passed by. -/
def Sep (s : List UInt8) : Prop := ∀ (R : Int → List UInt8 → Bool) (r : List UInt8) (q : Nat), lexA R (s ++ r) q = lexA R r (q + s.length)
theorem sep_nil : Sep [] := fun _ _ _ => rfl
theorem sep_blank {c : UInt8} {s : List UInt8} (h : blankB c = true) (hs : Sep s) : Sep (c :: s) := fun R r q => by
  rw [List.cons_append, lexA_blank h, hs]
  rw [List.length_cons, show q + 1 + s.length = q + (s.length + 1) by omega]
theorem sep_comment {s : List UInt8} (h : s.all (· != 10) = true) : Sep (37 :: (s ++ [10])) := fun R r q => by
  have hw : (37 :: (s ++ 10 :: r) : List UInt8).takeWhile (· != 10) = 37 :: s := by
    have h2 : ∀ (s : List UInt8), s.all (· != 10) = true → (s ++ 10 :: r).takeWhile (· != 10) = s := by
      intro s
      induction s with
      | nil => intro _; simp
      | cons a s ih =>
        intro hs
        simp only [List.all_cons, Bool.and_eq_true] at hs
        rw [List.cons_append, List.takeWhile_cons, if_pos hs.1, ih hs.2]
    rw [List.takeWhile_cons, if_pos (by decide), h2 s h]
  rw [show (37 :: (s ++ [10])) ++ r = (37 :: (s ++ 10 :: r) : List UInt8) by simp, lexA_comment, hw]
  rw [show (37 :: (s ++ 10 :: r) : List UInt8).drop (37 :: s).length = 10 :: r by simp, lexA_blank (by decide)]
  simp; congr 1
theorem sep_app {s t : List UInt8} (hs : Sep s) (ht : Sep t) : Sep (s ++ t) := fun R r q => by
  rw [List.append_assoc, hs, ht]
  simp; congr 1; omega
/-- Signs, each behind what stands ahead of it. -/
def glue : List (List UInt8 × Tk) → List UInt8
  | [] => []
  | p :: ps => p.1 ++ (p.2.2.1 ++ glue ps)
def kt (t : Tk) : Int × List UInt8 := (t.1, t.2.1)
theorem glue_ends {ps : List (List UInt8 × Tk)} (h : ∀ p ∈ ps, headB blankB p.1 = true) : Ends (glue ps) := by
  cases ps with
  | nil => exact Or.inl rfl
  | cons p ps =>
    have := h p (by simp)
    refine Or.inr ?_
    unfold glue
    obtain ⟨s, t⟩ := p
    cases s with
    | nil => cases this
    | cons c s => exact this
/-- What is joined has the same signs. -/
theorem lex_glue {R : Int → List UInt8 → Bool} : ∀ {ps : List (List UInt8 × Tk)} {q : Nat}, (∀ p ∈ ps, Good R p.2 ∧ Sep p.1) → (∀ p ∈ ps.tail, headB blankB p.1 = true) →
    ∃ us, lexA R (glue ps) q = .ok us ∧ us.map kt = ps.map (fun p => kt p.2) := by
  intro ps
  induction ps with
  | nil => intro q _ _; exact ⟨[], rfl, rfl⟩
  | cons p ps ih =>
    intro q hg hs
    obtain ⟨s, k, x, o⟩ := p
    obtain ⟨⟨hr, hb, hc, r0, h0⟩, hsep⟩ := hg (s, k, x, o) (by simp)
    simp only at hr hb hc h0 hsep
    have he : Ends (glue ps) := glue_ends (fun p hp => hs p (by simpa using hp))
    have h1 := sign_again h0 he
    obtain ⟨us, h2, h3⟩ := ih (q := q + s.length + x.length) (fun p hp => hg p (by simp [hp])) (fun p hp => hs p (by simpa using List.mem_of_mem_tail hp))
    refine ⟨(k, x, q + s.length) :: us, ?_, by simp [kt, h3]⟩
    show lexA R (s ++ (x ++ glue ps)) q = _
    rw [hsep]
    cases x with
    | nil => have := signL_pos h0; simp at this
    | cons c x =>
      have hcx : c ≠ 37 := by simpa [headB] using hc
      have ht : (c :: (x ++ glue ps)).take (c :: x).length = c :: x := by simp
      have hd : (c :: (x ++ glue ps)).drop (c :: x).length = glue ps := by simp
      have e := lexA_sign (R := R) (q := q + s.length) (k := k) (n := (c :: x).length) (c := c) (r := x ++ glue ps) hb hcx h1 (by rw [ht]; exact hr)
      rw [hd, ht, h2] at e
      exact e
end Go.Proofs.YtaapeleoiclplaaDoor.V
