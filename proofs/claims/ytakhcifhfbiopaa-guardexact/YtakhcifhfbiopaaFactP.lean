/- Facts in plain words: their order is one, unlike right facts have unlike texts. No program in it. -/
import Derived.Test.YtakhcifhfbiopaaOwnO
import Derived.Test.YtakhcifhfbiopaaOwnQ
namespace Go.Proofs.Ytakhcifhfbiopaa.V

/-- A value: kind, number, bytes. -/
abbrev Vl := Int × Int × List UInt8
/-- A fact: name, arguments. -/
abbrev Fc := List UInt8 × List Vl

/-- Two lists: by the first place at which they are unlike, a beginning first. -/
def lexL {α : Type} (f : α → α → Int) : List α → List α → Int
  | [], [] => 0
  | [], _ :: _ => -1
  | _ :: _, [] => 1
  | a :: as, b :: bs => if f a b ≠ 0 then f a b else lexL f as bs

theorem lexL_ne {α : Type} {f : α → α → Int} {a b : α} {as bs : List α} (h : f a b ≠ 0) : lexL f (a :: as) (b :: bs) = f a b := by simp [lexL, h]
theorem lexL_eq {α : Type} {f : α → α → Int} {a b : α} {as bs : List α} (h : f a b = 0) : lexL f (a :: as) (b :: bs) = lexL f as bs := by simp [lexL, h]

theorem ord_lex {α : Type} {f : α → α → Int} (O : Ord3 f) : Ord3 (lexL f) := by
  refine ⟨?_, ?_, ?_, ?_⟩
  · intro a
    induction a with
    | nil => intro b; cases b <;> simp [lexL]
    | cons x xs ih =>
      intro b
      cases b with
      | nil => simp [lexL]
      | cons y ys =>
        by_cases h : f x y = 0
        · rw [lexL_eq h]; exact ih ys
        · rw [lexL_ne h]; exact O.tri x y
  · intro a
    induction a with
    | nil => intro b; cases b <;> simp [lexL]
    | cons x xs ih =>
      intro b
      cases b with
      | nil => simp [lexL]
      | cons y ys =>
        have hn := O.anti x y
        by_cases h : f x y = 0
        · rw [lexL_eq h, lexL_eq (by omega)]; exact ih ys
        · rw [lexL_ne h, lexL_ne (by omega)]; exact hn
  · intro a
    induction a with
    | nil => intro b; cases b <;> simp [lexL]
    | cons x xs ih =>
      intro b
      cases b with
      | nil => simp [lexL]
      | cons y ys =>
        have hz := O.zero x y
        by_cases h : f x y = 0
        · rw [lexL_eq h, ih ys]
          have := hz.1 h
          simp [this]
        · rw [lexL_ne h]
          constructor
          · intro h'; exact absurd h' h
          · intro h'; simp at h'; exact absurd (hz.2 h'.1) h
  · intro a
    induction a with
    | nil =>
      intro b c h1 h2
      cases c with
      | nil => cases b <;> simp [lexL] at h1 h2
      | cons z zs => simp [lexL]
    | cons x xs ih =>
      intro b c h1 h2
      cases b with
      | nil => simp [lexL] at h1
      | cons y ys =>
        cases c with
        | nil => simp [lexL] at h2
        | cons z zs =>
          by_cases e1 : f x y = 0
          · have := (O.zero x y).1 e1; subst this
            rw [lexL_eq e1] at h1
            by_cases e2 : f x z = 0
            · rw [lexL_eq e2] at h2 ⊢; exact ih ys zs h1 h2
            · rw [lexL_ne e2] at h2 ⊢; exact h2
          · rw [lexL_ne e1] at h1
            by_cases e2 : f y z = 0
            · have := (O.zero y z).1 e2; subst this
              rw [lexL_ne e1]; exact h1
            · rw [lexL_ne e2] at h2
              have h3 := O.trans x y z h1 h2
              rw [lexL_ne (by omega)]; exact h3

/-- First the one, then, where it tells nothing, the other. -/
theorem ord_then {α β γ : Type} {f : β → β → Int} {g : γ → γ → Int} (F : Ord3 f) (G : Ord3 g) (p : α → β) (q : α → γ) (inj : ∀ a b, p a = p b → q a = q b → a = b) : Ord3 (fun a b => if f (p a) (p b) ≠ 0 then f (p a) (p b) else g (q a) (q b)) := by
  refine ⟨fun a b => ?_, fun a b => ?_, fun a b => ?_, fun a b c => ?_⟩
  · by_cases h : f (p a) (p b) = 0
    · simp only [h, ne_eq, not_true_eq_false, if_false]; exact G.tri _ _
    · rw [if_pos h]; exact F.tri _ _
  · have hn := F.anti (p a) (p b)
    by_cases h : f (p a) (p b) = 0
    · have h' : f (p b) (p a) = 0 := by omega
      simp only [h, h', ne_eq, not_true_eq_false, if_false]; exact G.anti _ _
    · have h' : f (p b) (p a) ≠ 0 := by omega
      simp only [h, h', ne_eq, not_false_eq_true, if_true]; exact hn
  · by_cases h : f (p a) (p b) = 0
    · simp only [h, ne_eq, not_true_eq_false, if_false]
      rw [G.zero]
      exact ⟨fun e => inj a b ((F.zero _ _).1 h) e, fun e => by rw [e]⟩
    · simp only [h, ne_eq, not_false_eq_true, if_true]
      constructor
      · intro e; exact absurd e (by simp)
      · intro e; subst e; exact absurd ((F.zero _ _).2 rfl) h
  · intro h1 h2
    by_cases e1 : f (p a) (p b) = 0
    · have e := (F.zero _ _).1 e1
      simp only [e1, ne_eq, not_true_eq_false, if_false] at h1
      rw [e]
      by_cases e2 : f (p b) (p c) = 0
      · simp only [e2, ne_eq, not_true_eq_false, if_false] at h2 ⊢
        exact G.trans _ _ _ h1 h2
      · simp only [e2, ne_eq, not_false_eq_true, if_true] at h2 ⊢
        exact h2
    · simp only [e1, ne_eq, not_false_eq_true, if_true] at h1
      by_cases e2 : f (p b) (p c) = 0
      · have e := (F.zero _ _).1 e2
        rw [← e]
        simp only [e1, ne_eq, not_false_eq_true, if_true]
        exact h1
      · simp only [e2, ne_eq, not_false_eq_true, if_true] at h2
        have h3 := F.trans _ _ _ h1 h2
        rw [if_pos (by omega)]; exact h3

/-- The order of facts: by name, then the count of arguments, then these one by one. -/
def cmpF (a b : Fc) : Int :=
  if Lib.compareBytes a.1 b.1 ≠ 0 then Lib.compareBytes a.1 b.1
  else if Lib.compareInt a.2.length b.2.length ≠ 0 then Lib.compareInt a.2.length b.2.length
  else lexL cmpV a.2 b.2

theorem ord_args : Ord3 (fun a b : List Vl => if Lib.compareInt a.length b.length ≠ 0 then Lib.compareInt a.length b.length else lexL cmpV a b) := by
  have I := ord_int
  have L := ord_lex ord_val
  refine ⟨fun a b => ?_, fun a b => ?_, fun a b => ?_, fun a b c => ?_⟩
  · by_cases h : Lib.compareInt a.length b.length = 0
    · simp only [h, ne_eq, not_true_eq_false, if_false]; exact L.tri _ _
    · rw [if_pos h]; exact I.tri _ _
  · have hn := I.anti a.length b.length
    by_cases h : Lib.compareInt a.length b.length = 0
    · have h' : Lib.compareInt b.length a.length = 0 := by omega
      simp only [h, h', ne_eq, not_true_eq_false, if_false]; exact L.anti _ _
    · have h' : Lib.compareInt b.length a.length ≠ 0 := by omega
      simp only [h, h', ne_eq, not_false_eq_true, if_true]; exact hn
  · by_cases h : Lib.compareInt a.length b.length = 0
    · simp only [h, ne_eq, not_true_eq_false, if_false]; exact L.zero _ _
    · simp only [h, ne_eq, not_false_eq_true, if_true]
      constructor
      · intro e; exact absurd e (by simp)
      · intro e; subst e; exact absurd ((I.zero _ _).2 rfl) h
  · intro h1 h2
    by_cases e1 : Lib.compareInt a.length b.length = 0
    · have e := (I.zero _ _).1 e1
      simp only [e1, ne_eq, not_true_eq_false, if_false] at h1
      rw [e]
      by_cases e2 : Lib.compareInt b.length c.length = 0
      · simp only [e2, ne_eq, not_true_eq_false, if_false] at h2 ⊢
        exact L.trans _ _ _ h1 h2
      · simp only [e2, ne_eq, not_false_eq_true, if_true] at h2 ⊢
        exact h2
    · simp only [e1, ne_eq, not_false_eq_true, if_true] at h1
      by_cases e2 : Lib.compareInt b.length c.length = 0
      · have e := (I.zero _ _).1 e2
        rw [← e]
        simp only [e1, ne_eq, not_false_eq_true, if_true]
        exact h1
      · simp only [e2, ne_eq, not_false_eq_true, if_true] at h2
        have h3 := I.trans _ _ _ h1 h2
        rw [if_pos (by omega)]; exact h3

theorem ord_fact : Ord3 cmpF :=
  ord_then (α := Fc) ord_bytes ord_args (·.1) (·.2) (fun _ _ h k => Prod.ext h k)

/-- A fact's text: the name, then the arguments' texts between brackets. -/
def joinL (ahead : List UInt8) : List Vl → List UInt8
  | [] => []
  | v :: r => ahead ++ (textL v.1 v.2.1 v.2.2 ++ joinL [44, 32] r)
def textF (a : Fc) : List UInt8 := a.1 ++ (joinL [40] a.2 ++ if a.2.isEmpty then [] else [41])

/-- A beginning of p's bytes, then none of them: the parts are told. -/
theorem span_inj {p : UInt8 → Bool} {a b R S : List UInt8} (ha : ∀ c ∈ a, p c = true) (hb : ∀ c ∈ b, p c = true) (hR : ∀ c ∈ R.head?, p c = false) (hS : ∀ c ∈ S.head?, p c = false) (h : a ++ R = b ++ S) : a = b ∧ R = S := by
  induction a generalizing b with
  | nil =>
    cases b with
    | nil => exact ⟨rfl, h⟩
    | cons y ys =>
      simp only [List.nil_append, List.cons_append] at h
      subst h
      have h1 := hR y (by simp)
      rw [hb y (by simp)] at h1; cases h1
  | cons x xs ih =>
    cases b with
    | nil =>
      simp only [List.nil_append, List.cons_append] at h
      subst h
      have h1 := hS x (by simp)
      rw [ha x (by simp)] at h1; cases h1
    | cons y ys =>
      simp only [List.cons_append, List.cons.injEq] at h
      obtain ⟨h1, h2⟩ := ih (fun c hc => ha c (by simp [hc])) (fun c hc => hb c (by simp [hc])) h.2
      exact ⟨by rw [h.1, h1], h2⟩

theorem escq_inj {l m R S : List UInt8} (h : escL l ++ 34 :: R = escL m ++ 34 :: S) : l = m ∧ R = S := by
  induction l generalizing m with
  | nil =>
    cases m with
    | nil => simpa [escL] using h
    | cons y ys =>
      exfalso
      simp only [escL, List.nil_append] at h
      cases hy : escB y.toNat
      · have h' : ¬ ((y.toNat : Int) = 34 ∨ (y.toNat : Int) = 92) := by simpa [escB] using hy
        simp only [hy, Bool.false_eq_true, if_false, List.cons_append, List.cons.injEq] at h
        exact h' (Or.inl (by rw [← h.1]; rfl))
      · simp only [hy, if_true, List.cons_append, List.cons.injEq] at h
        exact absurd h.1 (by decide)
  | cons x xs ih =>
    cases m with
    | nil =>
      exfalso
      simp only [escL, List.nil_append] at h
      cases hx : escB x.toNat
      · have h' : ¬ ((x.toNat : Int) = 34 ∨ (x.toNat : Int) = 92) := by simpa [escB] using hx
        simp only [hx, Bool.false_eq_true, if_false, List.cons_append, List.cons.injEq] at h
        exact h' (Or.inl (by rw [h.1]; rfl))
      · simp only [hx, if_true, List.cons_append, List.cons.injEq] at h
        exact absurd h.1 (by decide)
    | cons y ys =>
      simp only [escL] at h
      cases hx : escB x.toNat
      · have hx' : ¬ ((x.toNat : Int) = 34 ∨ (x.toNat : Int) = 92) := by simpa [escB] using hx
        cases hy : escB y.toNat
        · simp only [hx, hy, Bool.false_eq_true, if_false, List.cons_append, List.cons.injEq] at h
          obtain ⟨h1, h2⟩ := ih h.2
          exact ⟨by rw [h.1, h1], h2⟩
        · exfalso
          simp only [hx, hy, Bool.false_eq_true, if_false, if_true, List.cons_append, List.cons.injEq] at h
          exact hx' (Or.inr (by rw [h.1]; rfl))
      · cases hy : escB y.toNat
        · have hy' : ¬ ((y.toNat : Int) = 34 ∨ (y.toNat : Int) = 92) := by simpa [escB] using hy
          exfalso
          simp only [hx, hy, Bool.false_eq_true, if_false, if_true, List.cons_append, List.cons.injEq] at h
          exact hy' (Or.inr (by rw [← h.1]; rfl))
        · simp only [hx, hy, if_true, List.cons_append, List.cons.injEq, true_and] at h
          obtain ⟨h1, h2⟩ := ih h.2
          exact ⟨by rw [h.1, h1], h2⟩

/-- What may stand behind a value's text. -/
def Behind (R : List UInt8) : Prop := ∃ c r, R = c :: r ∧ (c = 44 ∨ c = 41)

def numB (c : UInt8) : Bool := decide (c.toNat = 45) || digB c.toNat
theorem itoa_numB (n : Int) : ∀ c ∈ Lib.itoa n, numB c = true := by
  unfold Lib.itoa
  intro c hc
  have hd : ∀ u, c ∈ Lib.decDigits u → numB c = true := by
    intro u h
    have := dec_digits u c h
    have : digB c.toNat = true := digB_t (by omega) (by omega)
    simp [numB, this]
  split at hc
  · rcases List.mem_cons.1 hc with h | h
    · subst h; decide
    · exact hd _ h
  · exact hd _ hc
theorem itoa_inj {n m : Int} (n0 : -4611686018427387904 ≤ n) (n1 : n ≤ 4611686018427387904) (m0 : -4611686018427387904 ≤ m) (m1 : m ≤ 4611686018427387904) (h : Lib.itoa n = Lib.itoa m) : n = m := by
  have a := numL_itoa n n0 n1
  rw [h, numL_itoa m m0 m1] at a
  injection a with a
  exact a.symm
theorem symB_inn {l : List UInt8} (h : symB l = true) : ∀ c ∈ l, innB c = true := by
  cases l with
  | nil => simp [symB] at h
  | cons c r =>
    simp only [symB, Bool.and_eq_true] at h
    exact List.all_eq_true.1 h.2.2
theorem symB_cons {l : List UInt8} (h : symB l = true) : ∃ c r, l = c :: r ∧ lowB c.toNat = true := by
  cases l with
  | nil => simp [symB] at h
  | cons c r =>
    simp only [symB, Bool.and_eq_true] at h
    exact ⟨c, r, rfl, h.2.1⟩
theorem Behind.no {R : List UInt8} (h : Behind R) {p : UInt8 → Bool} (h1 : p 44 = false) (h2 : p 41 = false) : ∀ c ∈ R.head?, p c = false := by
  obtain ⟨c, r, rfl, hc⟩ := h
  intro d hd
  simp at hd; subst hd
  rcases hc with rfl | rfl
  · exact h1
  · exact h2

/-- Which kind a right value is, and what its text is. -/
def Kd (v : Vl) : Prop :=
  (∃ n : Int, (-4611686018427387904 ≤ n ∧ n ≤ 4611686018427387904) ∧ v = (1, n, []) ∧ textL v.1 v.2.1 v.2.2 = Lib.itoa n) ∨
  (∃ l : List UInt8, symB l = true ∧ v = (2, 0, l) ∧ textL v.1 v.2.1 v.2.2 = l) ∨
  (∃ l : List UInt8, v = (3, 0, l) ∧ textL v.1 v.2.1 v.2.2 = quoteL l)
theorem kd_of {v : Vl} (h : rightB v.1 v.2.1 v.2.2 = true) : Kd v := by
  obtain ⟨k, n, l⟩ := v
  simp only at h
  by_cases k1 : k = 1
  · subst k1
    have hb : l = [] ∧ -4611686018427387904 ≤ n ∧ n ≤ 4611686018427387904 := by simpa [rightB] using h
    obtain ⟨rfl, n0, n1⟩ := hb
    exact Or.inl ⟨n, ⟨n0, n1⟩, rfl, by simp [textL]⟩
  · by_cases k2 : k = 2
    · subst k2
      have hb : n = 0 ∧ symB l = true := by simpa [rightB] using h
      obtain ⟨rfl, hl⟩ := hb
      exact Or.inr (Or.inl ⟨l, hl, rfl, by simp [textL]⟩)
    · by_cases k3 : k = 3
      · subst k3
        have hb : n = 0 ∧ strB l = true := by simpa [rightB] using h
        obtain ⟨rfl, hl⟩ := hb
        exact Or.inr (Or.inr ⟨l, rfl, by simp [textL]⟩)
      · simp [rightB, k1, k2, k3] at h

theorem low_no {c : UInt8} (h : lowB c.toNat = true) : c.toNat ≠ 34 ∧ c.toNat ≠ 45 ∧ digB c.toNat = false := by
  have : 97 ≤ (c.toNat : Int) ∧ (c.toNat : Int) ≤ 122 := by simpa [lowB] using h
  exact ⟨by omega, by omega, digB_f (by omega)⟩
theorem num_sym {n : Int} {l R S : List UInt8} (hl : symB l = true) (h : Lib.itoa n ++ R = l ++ S) : False := by
  obtain ⟨c, q, e, e1, e2⟩ := itoa_head n
  obtain ⟨d, r, rfl, hd⟩ := symB_cons hl
  rw [e] at h
  simp only [List.cons_append, List.cons.injEq] at h
  obtain ⟨rfl, _⟩ := h
  obtain ⟨_, a, b⟩ := low_no hd
  rcases e2 with e2 | e2
  · exact a e2
  · rw [b] at e2; cases e2
theorem num_str {n : Int} {l R S : List UInt8} (h : Lib.itoa n ++ R = quoteL l ++ S) : False := by
  obtain ⟨c, q, e, e1, e2⟩ := itoa_head n
  rw [e] at h
  simp only [quoteL, List.cons_append, List.cons.injEq] at h
  obtain ⟨rfl, _⟩ := h
  exact e1 rfl
theorem sym_str {l m R S : List UInt8} (hl : symB l = true) (h : l ++ R = quoteL m ++ S) : False := by
  obtain ⟨d, r, rfl, hd⟩ := symB_cons hl
  simp only [quoteL, List.cons_append, List.cons.injEq] at h
  obtain ⟨rfl, _⟩ := h
  exact (low_no hd).1 rfl

theorem text_inj {v w : Vl} {R S : List UInt8} (hv : rightB v.1 v.2.1 v.2.2 = true) (hw : rightB w.1 w.2.1 w.2.2 = true) (hR : Behind R) (hS : Behind S)
    (h : textL v.1 v.2.1 v.2.2 ++ R = textL w.1 w.2.1 w.2.2 ++ S) : v = w ∧ R = S := by
  rcases kd_of hv with ⟨n, ⟨n0, n1⟩, e, t⟩ | ⟨l, hl, e, t⟩ | ⟨l, e, t⟩
  · rw [t] at h
    rcases kd_of hw with ⟨m, ⟨m0, m1⟩, e', t'⟩ | ⟨m, hm, e', t'⟩ | ⟨m, e', t'⟩
    · rw [t'] at h
      obtain ⟨h1, h2⟩ := span_inj (itoa_numB n) (itoa_numB m) (hR.no (by decide) (by decide)) (hS.no (by decide) (by decide)) h
      have := itoa_inj n0 n1 m0 m1 h1
      exact ⟨by rw [e, e', this], h2⟩
    · rw [t'] at h; exact (num_sym hm h).elim
    · rw [t'] at h; exact (num_str h).elim
  · rw [t] at h
    rcases kd_of hw with ⟨m, ⟨m0, m1⟩, e', t'⟩ | ⟨m, hm, e', t'⟩ | ⟨m, e', t'⟩
    · rw [t'] at h; exact (num_sym hl h.symm).elim
    · rw [t'] at h
      obtain ⟨h1, h2⟩ := span_inj (symB_inn hl) (symB_inn hm) (hR.no (by decide) (by decide)) (hS.no (by decide) (by decide)) h
      exact ⟨by rw [e, e', h1], h2⟩
    · rw [t'] at h; exact (sym_str hl h).elim
  · rw [t] at h
    rcases kd_of hw with ⟨m, ⟨m0, m1⟩, e', t'⟩ | ⟨m, hm, e', t'⟩ | ⟨m, e', t'⟩
    · rw [t'] at h; exact (num_str h.symm).elim
    · rw [t'] at h; exact (sym_str hm h.symm).elim
    · rw [t'] at h
      simp only [quoteL, List.cons_append, List.append_assoc, List.cons.injEq, true_and, List.nil_append] at h
      obtain ⟨h1, h2⟩ := escq_inj h
      exact ⟨by rw [e, e', h1], h2⟩

def rightV (v : Vl) : Bool := rightB v.1 v.2.1 v.2.2
theorem behind_join (r : List Vl) : Behind (joinL [44, 32] r ++ [41]) := by
  cases r with
  | nil => exact ⟨41, [], rfl, Or.inr rfl⟩
  | cons v q => exact ⟨44, _, rfl, Or.inl rfl⟩
theorem join_inj {a b : List Vl} {u : List UInt8} {c : UInt8} (hc : c ≠ 41) (ha : ∀ v ∈ a, rightV v = true) (hb : ∀ v ∈ b, rightV v = true) (h : joinL (c :: u) a ++ [41] = joinL (c :: u) b ++ [41]) : a = b := by
  induction a generalizing b c u with
  | nil =>
    cases b with
    | nil => rfl
    | cons w s =>
      simp only [joinL, List.nil_append, List.cons_append, List.cons.injEq] at h
      exact absurd h.1.symm hc
  | cons v r ih =>
    cases b with
    | nil =>
      simp only [joinL, List.nil_append, List.cons_append, List.cons.injEq] at h
      exact absurd h.1 hc
    | cons w s =>
      simp only [joinL, List.append_assoc] at h
      have h2 := List.append_cancel_left h
      obtain ⟨e, h3⟩ := text_inj (ha v (by simp)) (hb w (by simp)) (behind_join r) (behind_join s) h2
      rw [e, ih (by decide) (fun x hx => ha x (by simp [hx])) (fun x hx => hb x (by simp [hx])) h3]

/-- The words that are no names. -/
def wordsL : List (List UInt8) := [[102, 97, 99, 116], [114, 117, 108, 101], [112, 97, 116, 116, 101, 114, 110], [110, 111, 116], [97, 110, 100], [111, 114], [98, 101, 102, 111, 114, 101], [111, 110, 99, 101], [97, 108, 119, 97, 121, 115], [115, 105, 110, 99, 101], [100, 114, 111, 112]]
def nameB (l : List UInt8) : Bool := symB l && !wordsL.contains l
def rightF (a : Fc) : Bool := nameB a.1 && (decide (a.2.length ≤ 5) && a.2.all rightV)

theorem textF_inj {a b : Fc} (ha : rightF a = true) (hb : rightF b = true) (h : textF a = textF b) : a = b := by
  obtain ⟨n, x⟩ := a
  obtain ⟨m, y⟩ := b
  simp only [rightF, nameB, Bool.and_eq_true] at ha hb
  have hx := List.all_eq_true.1 ha.2.2
  have hy := List.all_eq_true.1 hb.2.2
  simp only [textF] at h
  have hd : ∀ z : List Vl, ∀ c ∈ (joinL [40] z ++ if z.isEmpty then [] else [41]).head?, innB c = false := by
    intro z c hc
    cases z with
    | nil => simp [joinL] at hc
    | cons v r => simp [joinL] at hc; subst hc; decide
  obtain ⟨h1, h2⟩ := span_inj (symB_inn ha.1.1) (symB_inn hb.1.1) (hd x) (hd y) h
  subst h1
  have : x = y := by
    cases x with
    | nil =>
      cases y with
      | nil => rfl
      | cons w s => simp [joinL] at h2
    | cons v r =>
      cases y with
      | nil => simp [joinL] at h2
      | cons w s =>
        simp only [List.isEmpty_cons, Bool.false_eq_true, if_false] at h2
        exact join_inj (by decide) hx hy h2
  rw [this]
end Go.Proofs.Ytakhcifhfbiopaa.V
