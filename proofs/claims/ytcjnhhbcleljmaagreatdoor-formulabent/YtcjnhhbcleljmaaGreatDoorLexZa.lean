/- Joined: LexQ LexR LexS. -/
import Derived.Test.YtcjnhhbcleljmaaGreatDoorLexP
namespace Go.Proofs.YtcjnhhbcleljmaaGreatDoor.V

theorem tw_exact {p : UInt8 → Bool} : ∀ {x r0 r : List UInt8}, ((x ++ r0).takeWhile p).length = x.length → headB p r = false → ((x ++ r).takeWhile p).length = x.length := by
  intro x
  induction x with
  | nil =>
    intro r0 r _ hr
    cases r with
    | nil => rfl
    | cons a r => simp only [headB] at hr; simp [hr]
  | cons a x ih =>
    intro r0 r h hr
    by_cases ha : p a = true
    · simp only [List.cons_append, List.takeWhile_cons, ha, if_true, List.length_cons] at h ⊢
      rw [ih (r0 := r0) (by omega) hr]
    · simp [ha] at h
theorem strN_cons (c : UInt8) (r : List UInt8) : strN (c :: r) = if c = 34 then some 1 else if c = 92 then (match r with
      | [] => none
      | _ :: q => (strN q).map (· + 2)) else (strN r).map (· + 1) := by
  conv => lhs; unfold strN
  cases r <;> rfl
theorem strN_pos {l : List UInt8} {n : Nat} (h : strN l = some n) : 1 ≤ n := by
  cases l with
  | nil => cases h
  | cons c r =>
    rw [strN_cons] at h
    by_cases h1 : c = 34
    · rw [if_pos h1] at h; cases h; omega
    rw [if_neg h1] at h
    by_cases h2 : c = 92
    · rw [if_pos h2] at h
      cases r with
      | nil => cases h
      | cons d q =>
        simp only [Option.map_eq_some_iff] at h
        obtain ⟨m, -, rfl⟩ := h; omega
    · rw [if_neg h2] at h
      simp only [Option.map_eq_some_iff] at h
      obtain ⟨m, -, rfl⟩ := h; omega
theorem strN_exact : ∀ (m : Nat) {x r0 r : List UInt8}, x.length ≤ m → strN (x ++ r0) = some x.length → strN (x ++ r) = some x.length := by
  intro m
  induction m with
  | zero =>
    intro x r0 r hm h
    have : x = [] := List.eq_nil_of_length_eq_zero (by omega)
    subst this
    have := strN_pos h
    simp at this
  | succ m ih =>
    intro x r0 r hm h
    cases x with
    | nil => have := strN_pos h; simp at this
    | cons a y =>
      simp only [List.cons_append] at h ⊢
      rw [strN_cons] at h ⊢
      by_cases h1 : a = 34
      · rw [if_pos h1] at h ⊢; exact h
      rw [if_neg h1] at h ⊢
      by_cases h2 : a = 92
      · rw [if_pos h2] at h ⊢
        cases y with
        | nil =>
          simp only [List.nil_append] at h
          cases r0 with
          | nil => cases h
          | cons d q =>
            simp only [Option.map_eq_some_iff] at h
            obtain ⟨k, -, hk⟩ := h
            simp at hk
        | cons d y =>
          simp only [List.cons_append, Option.map_eq_some_iff, List.length_cons] at h ⊢
          obtain ⟨k, hk, hk2⟩ := h
          have : k = y.length := by omega
          subst this
          exact ⟨y.length, ih (by simp at hm; omega) hk, rfl⟩
      · rw [if_neg h2] at h ⊢
        simp only [Option.map_eq_some_iff, List.length_cons] at h ⊢
        obtain ⟨k, hk, hk2⟩ := h
        have : k = y.length := by omega
        subst this
        exact ⟨y.length, ih (by simp at hm; omega) hk, rfl⟩
theorem blank_cases {c : UInt8} (h : blankB c = true) : c = 32 ∨ c = 9 ∨ c = 13 ∨ c = 10 := by
  simp only [blankB, Bool.or_eq_true, beq_iff_eq] at h
  rcases h with ((h | h) | h) | h
  · exact Or.inl h
  · exact Or.inr (Or.inl h)
  · exact Or.inr (Or.inr (Or.inl h))
  · exact Or.inr (Or.inr (Or.inr h))
theorem blank_inn {c : UInt8} (h : blankB c = true) : innB c = false := by
  rcases blank_cases h with rfl | rfl | rfl | rfl <;> rfl
theorem blank_dig {c : UInt8} (h : blankB c = true) : digC c = false := by
  rcases blank_cases h with rfl | rfl | rfl | rfl <;> rfl
theorem blank_two {c d : UInt8} (h : blankB d = true) : twoB c d = false := by
  rcases blank_cases h with rfl | rfl | rfl | rfl <;> simp [twoB]
/-- Nothing, or a blank first. -/
def Ends (r : List UInt8) : Prop := r = [] ∨ headB blankB r = true
theorem ends_head {p : UInt8 → Bool} (hp : ∀ c, blankB c = true → p c = false) {r : List UInt8} (h : Ends r) : headB p r = false := by
  rcases h with rfl | h
  · rfl
  · cases r with
    | nil => rfl
    | cons c r => exact hp c h
/-- A sign ahead of a blank, or at the end, is the same sign. -/
theorem sign_again {x r0 r : List UInt8} {k : Int} (h : signL (x ++ r0) = some (k, x.length)) (hr : Ends r) : signL (x ++ r) = some (k, x.length) := by
  cases x with
  | nil =>
    have := signL_pos h
    simp at this
  | cons c x =>
    simp only [List.cons_append] at h ⊢
    rw [signL_cons] at h ⊢
    by_cases h1 : letB c = true
    · rw [if_pos h1] at h ⊢
      obtain ⟨e1, e2⟩ := Prod.mk.inj (Option.some.inj h)
      rw [tw_exact (r0 := r0) (x := x) (by simp at e2; omega) (ends_head (fun _ => blank_inn) hr), e1]
      simp; omega
    rw [if_neg h1] at h ⊢
    by_cases h2 : (digC c || (c == 45 && headB digC (x ++ r0))) = true
    · rw [if_pos h2] at h
      obtain ⟨e1, e2⟩ := Prod.mk.inj (Option.some.inj h)
      have hx : ((x ++ r0).takeWhile digC).length = x.length := by simp at e2; omega
      have h2' : (digC c || (c == 45 && headB digC (x ++ r))) = true := by
        by_cases hd : digC c = true
        · simp [hd]
        · simp only [hd, Bool.false_or, Bool.and_eq_true] at h2 ⊢
          refine ⟨h2.1, ?_⟩
          cases x with
          | cons d x => exact h2.2
          | nil =>
            exfalso
            have h3 := h2.2
            cases r0 with
            | nil => cases h3
            | cons d r0 =>
              simp only [List.nil_append, headB] at h3
              simp [h3] at hx
      rw [if_pos h2', tw_exact (r0 := r0) (x := x) hx (ends_head (fun _ => blank_dig) hr), e1]
      simp; omega
    have h2' : ¬ (digC c || (c == 45 && headB digC (x ++ r))) = true := by
      simp only [Bool.or_eq_true, Bool.and_eq_true, not_or, not_and] at h2 ⊢
      refine ⟨h2.1, fun h45 => ?_⟩
      cases x with
      | cons d x => exact h2.2 h45
      | nil =>
        rw [List.nil_append, ends_head (fun _ => blank_dig) hr]
        simp
    rw [if_neg h2] at h
    rw [if_neg h2']
    by_cases h3 : c = 34
    · rw [if_pos h3] at h ⊢
      simp only [Option.map_eq_some_iff] at h ⊢
      obtain ⟨m, hm, e⟩ := h
      obtain ⟨e1, e2⟩ := Prod.mk.inj e
      have : m = x.length := by simp at e2; omega
      subst this
      exact ⟨x.length, strN_exact _ (Nat.le_refl _) hm, e⟩
    rw [if_neg h3] at h ⊢
    by_cases h4 : headB (twoB c) (x ++ r0) = true
    · rw [if_pos h4] at h
      obtain ⟨e1, e2⟩ := Prod.mk.inj (Option.some.inj h)
      cases x with
      | nil => simp at e2
      | cons d x => rw [if_pos (show headB (twoB c) (d :: x ++ r) = true from h4)]; exact h
    rw [if_neg h4] at h
    by_cases h5 : singB c = true
    · rw [if_pos h5] at h
      obtain ⟨e1, e2⟩ := Prod.mk.inj (Option.some.inj h)
      have hx : x = [] := by
        cases x with
        | nil => rfl
        | cons d x => simp at e2
      subst hx
      rw [List.nil_append, ends_head (fun _ => blank_two) hr, if_neg (by simp), if_pos h5]
      exact h
    · rw [if_neg h5] at h; cases h
end Go.Proofs.YtcjnhhbcleljmaaGreatDoor.V
namespace Go.Proofs.YtcjnhhbcleljmaaGreatDoor.V

/-- A sign that may stand anywhere: right, and begun by no blank, no comment. -/
def Good (R : Int → List UInt8 → Bool) (t : Tk) : Prop :=
  R t.1 t.2.1 = true ∧ headB blankB t.2.1 = false ∧ headB (· == 37) t.2.1 = false ∧ ∃ r0, signL (t.2.1 ++ r0) = some (t.1, t.2.1.length)
/-- Each stands at its place, behind the one ahead of it. -/
def Spots (s : List UInt8) : Nat → List Tk → Prop
  | _, [] => True
  | p, t :: ts => p ≤ t.2.2 ∧ t.2.2 + t.2.1.length ≤ s.length ∧ (s.drop t.2.2).take t.2.1.length = t.2.1 ∧ 1 ≤ t.2.1.length ∧ Spots s (t.2.2 + t.2.1.length) ts
/-- How a step goes on: a blank, a comment, no sign, a wrong one, a sign. -/
theorem lex_step (R : Int → List UInt8 → Bool) (c : UInt8) (r : List UInt8) (q : Nat) :
    (blankB c = true ∧ lexA R (c :: r) q = lexA R r (q + 1)) ∨
    (blankB c = false ∧ c = 37 ∧ 1 ≤ ((c :: r).takeWhile (· != 10)).length ∧ ((c :: r).takeWhile (· != 10)).length ≤ (c :: r).length ∧ lexA R (c :: r) q = lexA R ((c :: r).drop ((c :: r).takeWhile (· != 10)).length) (q + ((c :: r).takeWhile (· != 10)).length)) ∨
    (blankB c = false ∧ c ≠ 37 ∧ (signL (c :: r) = none ∨ ∃ k n, signL (c :: r) = some (k, n) ∧ R k ((c :: r).take n) = false) ∧ lexA R (c :: r) q = .error q) ∨
    (blankB c = false ∧ c ≠ 37 ∧ ∃ k n, signL (c :: r) = some (k, n) ∧ 1 ≤ n ∧ R k ((c :: r).take n) = true ∧ lexA R (c :: r) q = (match lexA R ((c :: r).drop n) (q + n) with
      | .ok ts => .ok ((k, (c :: r).take n, q) :: ts)
      | .error e => .error e)) := by
  by_cases h1 : blankB c = true
  · exact Or.inl ⟨h1, lexA_blank h1⟩
  have h1' : blankB c = false := by simpa using h1
  by_cases h2 : c = 37
  · subst h2
    exact Or.inr (Or.inl ⟨h1', rfl, comment_pos r, List.Sublist.length_le (List.takeWhile_sublist _), lexA_comment⟩)
  cases hs : signL (c :: r) with
  | none => exact Or.inr (Or.inr (Or.inl ⟨h1', h2, Or.inl rfl, lexA_none h1' h2 hs⟩))
  | some kn =>
    obtain ⟨k, n⟩ := kn
    by_cases hr : R k ((c :: r).take n) = true
    · exact Or.inr (Or.inr (Or.inr ⟨h1', h2, k, n, rfl, signL_pos hs, hr, lexA_sign h1' h2 hs hr⟩))
    · have hr' : R k ((c :: r).take n) = false := by simpa using hr
      exact Or.inr (Or.inr (Or.inl ⟨h1', h2, Or.inr ⟨k, n, rfl, hr'⟩, lexA_wrong h1' h2 hs hr'⟩))
/-- A sign is no longer than the bytes. -/
theorem strN_le : ∀ (m : Nat) {l : List UInt8} {n : Nat}, l.length ≤ m → strN l = some n → n ≤ l.length := by
  intro m
  induction m with
  | zero =>
    intro l n hm h
    have : l = [] := List.eq_nil_of_length_eq_zero (by omega)
    subst this
    cases h
  | succ m ih =>
    intro l n hm h
    cases l with
    | nil => cases h
    | cons a y =>
      rw [strN_cons] at h
      by_cases h1 : a = 34
      · rw [if_pos h1] at h; cases h; simp
      rw [if_neg h1] at h
      by_cases h2 : a = 92
      · rw [if_pos h2] at h
        cases y with
        | nil => cases h
        | cons d y =>
          simp only [Option.map_eq_some_iff, List.length_cons] at h ⊢
          obtain ⟨k, hk, rfl⟩ := h
          have := ih (by simp at hm; omega) hk
          omega
      · rw [if_neg h2] at h
        simp only [Option.map_eq_some_iff, List.length_cons] at h ⊢
        obtain ⟨k, hk, rfl⟩ := h
        have := ih (by simp at hm; omega) hk
        omega
theorem signL_le {l : List UInt8} {k : Int} {n : Nat} (h : signL l = some (k, n)) : n ≤ l.length := by
  cases l with
  | nil => cases h
  | cons c r =>
    have t1 : (r.takeWhile innB).length ≤ r.length := List.Sublist.length_le (List.takeWhile_sublist _)
    have t2 : (r.takeWhile digC).length ≤ r.length := List.Sublist.length_le (List.takeWhile_sublist _)
    rw [signL_cons] at h
    by_cases h1 : letB c = true
    · rw [if_pos h1] at h
      have := (Prod.mk.inj (Option.some.inj h)).2
      simp; omega
    rw [if_neg h1] at h
    by_cases h2 : (digC c || (c == 45 && headB digC r)) = true
    · rw [if_pos h2] at h
      have := (Prod.mk.inj (Option.some.inj h)).2
      simp; omega
    rw [if_neg h2] at h
    by_cases h3 : c = 34
    · rw [if_pos h3] at h
      simp only [Option.map_eq_some_iff] at h
      obtain ⟨m, hm, e⟩ := h
      have := (Prod.mk.inj e).2
      have := strN_le _ (Nat.le_refl _) hm
      simp; omega
    rw [if_neg h3] at h
    by_cases h4 : headB (twoB c) r = true
    · rw [if_pos h4] at h
      have := (Prod.mk.inj (Option.some.inj h)).2
      cases r with
      | nil => cases h4
      | cons d r => simp; omega
    rw [if_neg h4] at h
    by_cases h5 : singB c = true
    · rw [if_pos h5] at h
      have := (Prod.mk.inj (Option.some.inj h)).2
      simp; omega
    · rw [if_neg h5] at h
      cases h
/-- What is said of signs that are read, and of the place where none begins. -/
theorem lex_all {R : Int → List UInt8 → Bool} {s : List UInt8} : ∀ (m : Nat) {q : Nat}, q ≤ s.length → s.length - q ≤ m →
    (∀ ts, lexA R (s.drop q) q = .ok ts → (∀ t ∈ ts, Good R t) ∧ Spots s q ts) ∧ (∀ e, lexA R (s.drop q) q = .error e → q ≤ e ∧ e < s.length) := by
  intro m
  induction m with
  | zero =>
    intro q hq hm
    have hd : s.drop q = [] := List.drop_eq_nil_of_le (by omega)
    rw [hd, lexA_nil]
    refine ⟨fun ts h => ?_, fun e h => by cases h⟩
    cases h
    exact ⟨by simp, trivial⟩
  | succ m ih =>
    intro q hq hm
    by_cases hlt : q < s.length
    case neg =>
      have hd : s.drop q = [] := List.drop_eq_nil_of_le (by omega)
      rw [hd, lexA_nil]
      refine ⟨fun ts h => ?_, fun e h => by cases h⟩
      cases h
      exact ⟨by simp, trivial⟩
    obtain ⟨c, r, hcr⟩ : ∃ c r, s.drop q = c :: r := ⟨s[q], s.drop (q + 1), List.drop_eq_getElem_cons hlt⟩
    have hl : (c :: r).length = s.length - q := by rw [← hcr]; simp
    have hdrop : ∀ n, (c :: r).drop n = s.drop (q + n) := fun n => by rw [← hcr, List.drop_drop]
    rw [hcr]
    rcases lex_step R c r q with ⟨_, h⟩ | ⟨_, _, h1, h2, h⟩ | ⟨_, _, _, h⟩ | ⟨hb, hc, k, n, hs, h1, hr, h⟩
    · rw [h, show r = s.drop (q + 1) from hdrop 1]
      obtain ⟨i1, i2⟩ := ih (q := q + 1) (by omega) (by omega)
      refine ⟨fun ts hts => ?_, fun e he => ?_⟩
      · obtain ⟨g1, g2⟩ := i1 ts hts
        refine ⟨g1, ?_⟩
        cases ts with
        | nil => trivial
        | cons t ts => exact ⟨by have := g2.1; omega, g2.2⟩
      · have := i2 e he; omega
    · rw [h, hdrop]
      generalize ((c :: r).takeWhile (· != 10)).length = n at h1 h2
      obtain ⟨i1, i2⟩ := ih (q := q + n) (by omega) (by omega)
      refine ⟨fun ts hts => ?_, fun e he => ?_⟩
      · obtain ⟨g1, g2⟩ := i1 ts hts
        refine ⟨g1, ?_⟩
        cases ts with
        | nil => trivial
        | cons t ts => exact ⟨by have := g2.1; omega, g2.2⟩
      · have := i2 e he; omega
    · rw [h]
      refine ⟨fun ts hts => (by cases hts), fun e he => ?_⟩
      cases he
      exact ⟨Nat.le_refl _, hlt⟩
    · have hn := signL_le hs
      have htl : ((c :: r).take n).length = n := by rw [List.length_take]; omega
      rw [h, hdrop]
      obtain ⟨i1, i2⟩ := ih (q := q + n) (by omega) (by omega)
      cases hx : lexA R (s.drop (q + n)) (q + n) with
      | error e =>
        refine ⟨fun ts hts => (by cases hts), fun e' he => ?_⟩
        cases he
        have := i2 e hx; omega
      | ok us =>
        refine ⟨fun ts hts => ?_, fun e he => by cases he⟩
        cases hts
        obtain ⟨g1, g2⟩ := i1 us hx
        refine ⟨fun t ht => ?_, ?_⟩
        · rcases List.mem_cons.1 ht with rfl | ht
          · refine ⟨hr, ?_, ?_, (c :: r).drop n, ?_⟩
            · cases n with
              | zero => omega
              | succ n => exact hb
            · cases n with
              | zero => omega
              | succ n => simpa [headB] using hc
            · show signL ((c :: r).take n ++ (c :: r).drop n) = some (k, ((c :: r).take n).length)
              rw [List.take_append_drop, htl]; exact hs
          · exact g1 t ht
        · refine ⟨Nat.le_refl _, ?_, ?_, ?_, ?_⟩
          · show q + ((c :: r).take n).length ≤ s.length
            rw [htl]; omega
          · show (s.drop q).take ((c :: r).take n).length = (c :: r).take n
            rw [htl, hcr]
          · show 1 ≤ ((c :: r).take n).length
            rw [htl]; exact h1
          · show Spots s (q + ((c :: r).take n).length) us
            rw [htl]; exact g2
/-- What stands between signs: it is passed by. -/
def Sep (s : List UInt8) : Prop := ∀ (R : Int → List UInt8 → Bool) (r : List UInt8) (q : Nat), lexA R (s ++ r) q = lexA R r (q + s.length)
theorem sep_nil : Sep [] := fun _ _ _ => rfl
theorem sep_blank {c : UInt8} {s : List UInt8} (h : blankB c = true) (hs : Sep s) : Sep (c :: s) := fun R r q => by
  rw [List.cons_append, lexA_blank h, hs]
  rw [List.length_cons, show q + 1 + s.length = q + (s.length + 1) by omega]
theorem sep_comment {s : List UInt8} (h : s.all (· != 10) = true) : Sep (37 :: (s ++ [10])) := fun R r q => by
  have hw : (37 :: (s ++ 10 :: r) : List UInt8).takeWhile (· != 10) = 37 :: s := by
    have h2 : ∀ (s : List UInt8), s.all (· != 10) = true → (s ++ 10 :: r).takeWhile (· != 10) = s := by
      intro s
      induction s with
      | nil => intro _; simp
      | cons a s ih =>
        intro hs
        simp only [List.all_cons, Bool.and_eq_true] at hs
        rw [List.cons_append, List.takeWhile_cons, if_pos hs.1, ih hs.2]
    rw [List.takeWhile_cons, if_pos (by decide), h2 s h]
  rw [show (37 :: (s ++ [10])) ++ r = (37 :: (s ++ 10 :: r) : List UInt8) by simp, lexA_comment, hw]
  rw [show (37 :: (s ++ 10 :: r) : List UInt8).drop (37 :: s).length = 10 :: r by simp, lexA_blank (by decide)]
  simp; congr 1
theorem sep_app {s t : List UInt8} (hs : Sep s) (ht : Sep t) : Sep (s ++ t) := fun R r q => by
  rw [List.append_assoc, hs, ht]
  simp; congr 1; omega
/-- Signs, each behind what stands ahead of it. -/
def glue : List (List UInt8 × Tk) → List UInt8
  | [] => []
  | p :: ps => p.1 ++ (p.2.2.1 ++ glue ps)
def kt (t : Tk) : Int × List UInt8 := (t.1, t.2.1)
theorem glue_ends {ps : List (List UInt8 × Tk)} (h : ∀ p ∈ ps, headB blankB p.1 = true) : Ends (glue ps) := by
  cases ps with
  | nil => exact Or.inl rfl
  | cons p ps =>
    have := h p (by simp)
    refine Or.inr ?_
    unfold glue
    obtain ⟨s, t⟩ := p
    cases s with
    | nil => cases this
    | cons c s => exact this
/-- What is joined has the same signs. -/
theorem lex_glue {R : Int → List UInt8 → Bool} : ∀ {ps : List (List UInt8 × Tk)} {q : Nat}, (∀ p ∈ ps, Good R p.2 ∧ Sep p.1) → (∀ p ∈ ps.tail, headB blankB p.1 = true) →
    ∃ us, lexA R (glue ps) q = .ok us ∧ us.map kt = ps.map (fun p => kt p.2) := by
  intro ps
  induction ps with
  | nil => intro q _ _; exact ⟨[], rfl, rfl⟩
  | cons p ps ih =>
    intro q hg hs
    obtain ⟨s, k, x, o⟩ := p
    obtain ⟨⟨hr, hb, hc, r0, h0⟩, hsep⟩ := hg (s, k, x, o) (by simp)
    simp only at hr hb hc h0 hsep
    have he : Ends (glue ps) := glue_ends (fun p hp => hs p (by simpa using hp))
    have h1 := sign_again h0 he
    obtain ⟨us, h2, h3⟩ := ih (q := q + s.length + x.length) (fun p hp => hg p (by simp [hp])) (fun p hp => hs p (by simpa using List.mem_of_mem_tail hp))
    refine ⟨(k, x, q + s.length) :: us, ?_, by simp [kt, h3]⟩
    show lexA R (s ++ (x ++ glue ps)) q = _
    rw [hsep]
    cases x with
    | nil => have := signL_pos h0; simp at this
    | cons c x =>
      have hcx : c ≠ 37 := by simpa [headB] using hc
      have ht : (c :: (x ++ glue ps)).take (c :: x).length = c :: x := by simp
      have hd : (c :: (x ++ glue ps)).drop (c :: x).length = glue ps := by simp
      have e := lexA_sign (R := R) (q := q + s.length) (k := k) (n := (c :: x).length) (c := c) (r := x ++ glue ps) hb hcx h1 (by rw [ht]; exact hr)
      rw [hd, ht, h2] at e
      exact e
end Go.Proofs.YtcjnhhbcleljmaaGreatDoor.V
namespace Go.Proofs.YtcjnhhbcleljmaaGreatDoor.V

/-- Behind a byte: a line more, or a column. -/
def adv (p : Nat × Nat) (c : UInt8) : Nat × Nat := if c = 10 then (p.1 + 1, 1) else (p.1, p.2 + 1)
/-- Where byte q stands. -/
def posL (s : List UInt8) (q : Nat) : Nat × Nat := (s.take q).foldl adv (1, 1)
theorem posL_zero (s : List UInt8) : posL s 0 = (1, 1) := by simp [posL]
theorem posL_succ {s : List UInt8} {q : Nat} (h : q < s.length) : posL s (q + 1) = adv (posL s q) s[q] := by
  unfold posL
  rw [List.take_succ_eq_append_getElem h, List.foldl_append]
  rfl
theorem posL_past {s : List UInt8} {q : Nat} (h : s.length ≤ q) : posL s q = posL s s.length := by
  unfold posL
  rw [List.take_of_length_le h, List.take_of_length_le (Nat.le_refl _)]
/-- Ahead of: by line, then by column. -/
def PLt (a b : Nat × Nat) : Prop := a.1 < b.1 ∨ (a.1 = b.1 ∧ a.2 < b.2)
theorem PLt.trans {a b c : Nat × Nat} (h : PLt a b) (k : PLt b c) : PLt a c := by
  unfold PLt at *
  omega
theorem PLt.ne {a b : Nat × Nat} (h : PLt a b) : a ≠ b := by
  intro e
  subst e
  unfold PLt at h
  omega
theorem adv_lt (p : Nat × Nat) (c : UInt8) : PLt p (adv p c) := by
  unfold PLt adv
  split
  · exact Or.inl (Nat.lt_succ_self _)
  · exact Or.inr ⟨rfl, Nat.lt_succ_self _⟩
theorem posL_lt {s : List UInt8} {i j : Nat} (h : i < j) (hj : j ≤ s.length) : PLt (posL s i) (posL s j) := by
  induction j with
  | zero => omega
  | succ j ih =>
    have h1 : PLt (posL s j) (posL s (j + 1)) := by rw [posL_succ (show j < s.length by omega)]; exact adv_lt _ _
    by_cases he : i = j
    · subst he; exact h1
    · exact (ih (by omega) (by omega)).trans h1
/-- No two bytes stand at one place. -/
theorem posL_inj {s : List UInt8} {i j : Nat} (hi : i ≤ s.length) (hj : j ≤ s.length) (h : posL s i = posL s j) : i = j := by
  rcases Nat.lt_trichotomy i j with k | k | k
  · exact absurd h (posL_lt k hj).ne
  · exact k
  · exact absurd h.symm (posL_lt k hi).ne
theorem posL_one (s : List UInt8) : ∀ q, 1 ≤ (posL s q).1 ∧ 1 ≤ (posL s q).2 ∧ (posL s q).1 ≤ q + 1 ∧ (posL s q).2 ≤ q + 1 := by
  intro q
  induction q with
  | zero => rw [posL_zero]; exact ⟨Nat.le_refl _, Nat.le_refl _, Nat.le_refl _, Nat.le_refl _⟩
  | succ q ih =>
    obtain ⟨h1, h2, h3, h4⟩ := ih
    by_cases h : q < s.length
    · rw [posL_succ h]
      unfold adv
      split
      · exact ⟨by simp, by simp, by simp; omega, by simp⟩
      · exact ⟨h1, by simp, by simp; omega, by simp; omega⟩
    · rw [posL_past (by omega), ← posL_past (show s.length ≤ q by omega)]
      omega
/-- Places rise as the signs do. -/
theorem spots_rise {s : List UInt8} : ∀ {ts : List Tk} {p : Nat}, Spots s p ts → ∀ t ∈ ts, p ≤ t.2.2 ∧ t.2.2 + t.2.1.length ≤ s.length ∧ t.2.2 < s.length ∧ (s.drop t.2.2).take t.2.1.length = t.2.1 := by
  intro ts
  induction ts with
  | nil => intro p _ t ht; cases ht
  | cons a ts ih =>
    intro p h t ht
    obtain ⟨h1, h2, h3, h4, h5⟩ := h
    rcases List.mem_cons.1 ht with rfl | ht
    · exact ⟨h1, h2, by omega, h3⟩
    · have := ih h5 t ht
      exact ⟨by omega, this.2.1, this.2.2.1, this.2.2.2⟩
end Go.Proofs.YtcjnhhbcleljmaaGreatDoor.V
