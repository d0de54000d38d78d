/- Joined: AtoP AtoQ AtoR AtoS AtoT. -/
import Derived.Test.YtcjnhhbcleljmaaGreatDoorLexZc
import Derived.Test.YtcjnhhbcleljmaaGreatDoorBasC
namespace Go.Proofs.YtcjnhhbcleljmaaGreatDoor.V

/-- What may stand right behind a sign, so that the sign ends there. -/
def Safe (k : Int) (x r : List UInt8) : Prop :=
  (k = 1 ∨ k = 2 → headB innB r = false) ∧ (k = 3 → headB digC r = false) ∧ (k = 5 → ∀ c, x = [c] → headB (twoB c) r = false ∧ (c = 45 → headB digC r = false))
theorem sign_safe {x r0 r : List UInt8} {k : Int} (h : signL (x ++ r0) = some (k, x.length)) (hr : Safe k x r) : signL (x ++ r) = some (k, x.length) := by
  obtain ⟨s1, s2, s3⟩ := hr
  cases x with
  | nil =>
    have := signL_pos h
    simp at this
  | cons c x =>
    simp only [List.cons_append] at h ⊢
    rw [signL_cons] at h ⊢
    by_cases h1 : letB c = true
    · rw [if_pos h1] at h ⊢
      obtain ⟨e1, e2⟩ := Prod.mk.inj (Option.some.inj h)
      have hk : k = 1 ∨ k = 2 := by
        rw [← e1]; split
        · exact Or.inl rfl
        · exact Or.inr rfl
      rw [tw_exact (r0 := r0) (x := x) (by simp at e2; omega) (s1 hk), e1]
      simp; omega
    rw [if_neg h1] at h ⊢
    by_cases h2 : (digC c || (c == 45 && headB digC (x ++ r0))) = true
    · rw [if_pos h2] at h
      obtain ⟨e1, e2⟩ := Prod.mk.inj (Option.some.inj h)
      have hx : ((x ++ r0).takeWhile digC).length = x.length := by simp at e2; omega
      have h2' : (digC c || (c == 45 && headB digC (x ++ r))) = true := by
        by_cases hd : digC c = true
        · simp [hd]
        · simp only [hd, Bool.false_or, Bool.and_eq_true] at h2 ⊢
          refine ⟨h2.1, ?_⟩
          cases x with
          | cons d x => exact h2.2
          | nil =>
            exfalso
            have h3 := h2.2
            cases r0 with
            | nil => cases h3
            | cons d r0 =>
              simp only [List.nil_append, headB] at h3
              simp [h3] at hx
      rw [if_pos h2', tw_exact (r0 := r0) (x := x) hx (s2 e1.symm), e1]
      simp; omega
    rw [if_neg h2] at h
    by_cases h3 : c = 34
    · have h2' : ¬ (digC c || (c == 45 && headB digC (x ++ r))) = true := by
        rw [h3, not_digC_34, show ((34 : UInt8) == 45) = false from rfl]; simp
      rw [if_neg h2', if_pos h3]
      rw [if_pos h3] at h
      simp only [Option.map_eq_some_iff] at h ⊢
      obtain ⟨m, hm, e⟩ := h
      obtain ⟨e1, e2⟩ := Prod.mk.inj e
      have : m = x.length := by simp at e2; omega
      subst this
      exact ⟨x.length, strN_exact _ (Nat.le_refl _) hm, e⟩
    rw [if_neg h3] at h
    have hk : k = 5 := by
      by_cases h4 : headB (twoB c) (x ++ r0) = true
      · rw [if_pos h4] at h; exact ((Prod.mk.inj (Option.some.inj h)).1).symm
      rw [if_neg h4] at h
      by_cases h5 : singB c = true
      · rw [if_pos h5] at h; exact ((Prod.mk.inj (Option.some.inj h)).1).symm
      · rw [if_neg h5] at h; cases h
    have h2' : ¬ (digC c || (c == 45 && headB digC (x ++ r))) = true := by
      simp only [Bool.or_eq_true, Bool.and_eq_true, not_or, not_and] at h2 ⊢
      refine ⟨h2.1, fun h45 => ?_⟩
      cases x with
      | cons d x => exact h2.2 h45
      | nil =>
        have hc : c = 45 := by simpa using h45
        rw [List.nil_append, (s3 hk c rfl).2 hc]
        simp
    rw [if_neg h2', if_neg h3]
    by_cases h4 : headB (twoB c) (x ++ r0) = true
    · rw [if_pos h4] at h
      obtain ⟨e1, e2⟩ := Prod.mk.inj (Option.some.inj h)
      cases x with
      | nil => simp at e2
      | cons d x => rw [if_pos (show headB (twoB c) (d :: x ++ r) = true from h4)]; exact h
    rw [if_neg h4] at h
    by_cases h5 : singB c = true
    · rw [if_pos h5] at h
      obtain ⟨e1, e2⟩ := Prod.mk.inj (Option.some.inj h)
      have hx : x = [] := by
        cases x with
        | nil => rfl
        | cons d x => simp at e2
      subst hx
      rw [List.nil_append, (s3 hk c rfl).1, if_neg (by simp), if_pos h5]
      exact h
    · rw [if_neg h5] at h; cases h
/-- Each sign may stand ahead of what follows it. -/
def SafeAll : List (List UInt8 × Tk) → Prop
  | [] => True
  | p :: ps => Safe p.2.1 p.2.2.1 (glue ps) ∧ SafeAll ps
/-- What is written so is read as the same signs. -/
theorem lex_safe {R : Int → List UInt8 → Bool} : ∀ {ps : List (List UInt8 × Tk)} {q : Nat}, (∀ p ∈ ps, Good R p.2 ∧ Sep p.1) → SafeAll ps →
    ∃ us, lexA R (glue ps) q = .ok us ∧ us.map kt = ps.map (fun p => kt p.2) := by
  intro ps
  induction ps with
  | nil => intro q _ _; exact ⟨[], rfl, rfl⟩
  | cons p ps ih =>
    intro q hg hs
    obtain ⟨s, k, x, o⟩ := p
    obtain ⟨⟨hr, hb, hc, r0, h0⟩, hsep⟩ := hg (s, k, x, o) (by simp)
    simp only at hr hb hc h0 hsep
    have h1 := sign_safe h0 hs.1
    obtain ⟨us, h2, h3⟩ := ih (q := q + s.length + x.length) (fun p hp => hg p (by simp [hp])) hs.2
    refine ⟨(k, x, q + s.length) :: us, ?_, by simp [kt, h3]⟩
    show lexA R (s ++ (x ++ glue ps)) q = _
    rw [hsep]
    cases x with
    | nil => have := signL_pos h0; simp at this
    | cons c x =>
      have hcx : c ≠ 37 := by simpa [headB] using hc
      have ht : (c :: (x ++ glue ps)).take (c :: x).length = c :: x := by simp
      have hd : (c :: (x ++ glue ps)).drop (c :: x).length = glue ps := by simp
      have e := lexA_sign (R := R) (q := q + s.length) (k := k) (n := (c :: x).length) (c := c) (r := x ++ glue ps) hb hcx h1 (by rw [ht]; exact hr)
      rw [hd, ht, h2] at e
      exact e
theorem glue_app (a b : List (List UInt8 × Tk)) : glue (a ++ b) = glue a ++ glue b := by
  induction a with
  | nil => rfl
  | cons p a ih => simp [glue, ih]

/-- A string's bytes up to the quote that closes it. -/
theorem strN_escL : ∀ (l r : List UInt8), strN (escL l ++ 34 :: r) = some ((escL l).length + 1) := by
  intro l
  induction l with
  | nil => intro r; rw [show escL [] ++ 34 :: r = 34 :: r from rfl, strN_cons, if_pos rfl]; rfl
  | cons c l ih =>
    intro r
    rw [show c :: l = [c] ++ l from rfl, escL_append]
    cases hc : escB c.toNat with
    | true =>
      rw [escL_one_t hc]
      show strN (92 :: c :: (escL l ++ 34 :: r)) = _
      rw [strN_cons, if_neg (by decide), if_pos rfl]
      show (strN (escL l ++ 34 :: r)).map (· + 2) = _
      rw [ih]
      simp
    | false =>
      rw [escL_one_f hc]
      have h34 : c ≠ 34 := by rintro rfl; exact absurd hc (by decide)
      have h92 : c ≠ 92 := by rintro rfl; exact absurd hc (by decide)
      show strN (c :: (escL l ++ 34 :: r)) = _
      rw [strN_cons, if_neg h34, if_neg h92, ih]
      simp

/-- A term's sign: its kind, its bytes. -/
def kindT (t : Bb) : Int := if t.1.size ≠ 0 then 2 else if t.2.1 = 1 then 3 else if t.2.1 = 2 then 1 else 4
def bytesT (t : Bb) : List UInt8 := if t.1.size ≠ 0 then t.1.data.toList else textL t.2.1 t.2.2.1 t.2.2.2.data.toList
theorem sign_word {x : List UInt8} {c : UInt8} {r : List UInt8} (h : x = c :: r) (hl : letB c = true) (ha : r.all innB = true) : signL (x ++ []) = some (if lowB c.toNat then 1 else 2, x.length) := by
  subst h
  rw [List.append_nil, sign_name hl]
  have hw : (r.takeWhile innB).length = r.length := by
    clear hl
    induction r with
    | nil => rfl
    | cons a r ih =>
      simp only [List.all_cons, Bool.and_eq_true] at ha
      rw [List.takeWhile_cons, if_pos ha.1, List.length_cons, ih ha.2, List.length_cons]
  rw [hw, Nat.add_comm]; rfl
theorem let_no {c : UInt8} (h : letB c = true) : blankB c = false ∧ (c == 37) = false := by
  have hc : (97 ≤ c.toNat ∧ c.toNat ≤ 122) ∨ (65 ≤ c.toNat ∧ c.toNat ≤ 90) := by
    simp only [letB, Bool.or_eq_true, lowB, upB, decide_eq_true_eq] at h
    rcases h with h | h
    · left; omega
    · right; omega
  refine ⟨?_, ?_⟩
  · cases hb : blankB c with
    | false => rfl
    | true =>
      rcases blank_cases hb with rfl | rfl | rfl | rfl <;> exact absurd hc (by decide)
  · cases hb : (c == 37) with
    | false => rfl
    | true =>
      have : c = 37 := by simpa using hb
      subst this
      exact absurd hc (by decide)
theorem good_sym {x : List UInt8} (h : symB x = true) (q : Nat) : Good rightK (1, x, q) := by
  obtain ⟨c, r, rfl, hl⟩ := symB_cons h
  have hl' : letB c = true := by simp [letB, hl]
  obtain ⟨b1, b2⟩ := let_no hl'
  have hall : r.all innB = true := List.all_eq_true.2 (fun d hd => symB_inn h d (by simp [hd]))
  refine ⟨h, b1, b2, [], ?_⟩
  have := sign_word (x := c :: r) rfl hl' hall
  rw [hl] at this
  exact this
theorem good_var {x : List UInt8} (h : varB x = true) (q : Nat) : Good rightK (2, x, q) := by
  cases x with
  | nil => cases h
  | cons c r =>
    simp only [varB, Bool.and_eq_true, decide_eq_true_eq] at h
    obtain ⟨h1, h2, h3⟩ := h
    have hl' : letB c = true := by simp [letB, h2]
    have hlow : lowB c.toNat = false := by
      cases hb : lowB c.toNat with
      | false => rfl
      | true =>
        simp only [lowB, upB, decide_eq_true_eq] at hb h2
        omega
    obtain ⟨b1, b2⟩ := let_no hl'
    simp only [List.all_cons, Bool.and_eq_true] at h3
    refine ⟨?_, b1, b2, [], ?_⟩
    · show varB (c :: r) = true
      simp [varB, h1, h2, h3]
    · have := sign_word (x := c :: r) rfl hl' h3.2
      rw [hlow] at this
      exact this
theorem dec_head (u : Nat) : ∃ c r, Lib.decDigits u = c :: r ∧ digC c = true ∧ r.all digC = true := by
  have ha := dec_all u
  obtain ⟨c, r, e, h1, h2⟩ := dec_cons u
  rw [e, List.all_cons, Bool.and_eq_true] at ha
  exact ⟨c, r, e, ha.1, ha.2⟩
theorem dig_no {c : UInt8} (h : digC c = true) : letB c = false ∧ blankB c = false ∧ (c == 37) = false := by
  have hc := isD_bd (show isD c = true from h)
  refine ⟨?_, ?_, ?_⟩
  · simp only [letB, lowB, upB]
    rw [decide_eq_false (by omega), decide_eq_false (by omega)]; rfl
  · cases hb : blankB c with
    | false => rfl
    | true => rcases blank_cases hb with rfl | rfl | rfl | rfl <;> exact absurd hc (by decide)
  · cases hb : (c == 37) with
    | false => rfl
    | true =>
      have : c = 37 := by simpa using hb
      subst this
      exact absurd hc (by decide)
theorem tw_full {p : UInt8 → Bool} : ∀ {l : List UInt8}, l.all p = true → (l.takeWhile p).length = l.length := by
  intro l
  induction l with
  | nil => intro _; rfl
  | cons a l ih =>
    intro h
    simp only [List.all_cons, Bool.and_eq_true] at h
    rw [List.takeWhile_cons, if_pos h.1, List.length_cons, ih h.2, List.length_cons]
theorem good_num {n : Int} (h0 : -4611686018427387904 ≤ n) (h1 : n ≤ 4611686018427387904) (q : Nat) : Good rightK (3, Lib.itoa n, q) := by
  have hr : rightK 3 (Lib.itoa n) = true := by rw [rightK3, numGo_itoa n h0 h1]; rfl
  by_cases hn : n < 0
  · have e : Lib.itoa n = 45 :: Lib.decDigits n.natAbs := by unfold Lib.itoa; rw [if_pos hn]
    obtain ⟨c, r, e2, d1, d2⟩ := dec_head n.natAbs
    rw [e, e2] at hr ⊢
    refine ⟨hr, rfl, rfl, [], ?_⟩
    rw [List.append_nil, sign_num (c := 45) (r := c :: r) rfl (by simp [headB, d1])]
    have hw : ((c :: r).takeWhile digC).length = (c :: r).length := tw_full (by simp [d1, d2])
    rw [hw]; simp; omega
  · have e : Lib.itoa n = Lib.decDigits n.toNat := by unfold Lib.itoa; rw [if_neg hn]
    obtain ⟨c, r, e2, d1, d2⟩ := dec_head n.toNat
    obtain ⟨b1, b2, b3⟩ := dig_no d1
    rw [e, e2] at hr ⊢
    refine ⟨hr, b2, b3, [], ?_⟩
    rw [List.append_nil, sign_num b1 (by simp [d1]), tw_full d2]
    simp; omega
theorem good_str {s : List UInt8} (h : strB s = true) (q : Nat) : Good rightK (4, quoteL s, q) := by
  refine ⟨by rw [rightK4, quotedGo_quote s h]; rfl, rfl, rfl, [], ?_⟩
  rw [List.append_nil]
  show signL (34 :: (escL s ++ [34])) = _
  rw [signL_cons, if_neg (by decide), if_neg (by rw [not_digC_34, show ((34 : UInt8) == 45) = false from rfl]; simp), if_pos rfl, strN_escL]
  simp [quoteL]
theorem good_mark {c : UInt8} (h : singB c = true) (hd : letB c = false ∧ digC c = false ∧ c ≠ 34) (q : Nat) : Good rightK (5, [c], q) := by
  refine ⟨rfl, ?_, ?_, [], ?_⟩
  · cases hb : blankB c with
    | false => exact hb
    | true => rcases blank_cases hb with rfl | rfl | rfl | rfl <;> exact absurd h (by decide)
  · show (c == 37) = false
    cases hb : (c == 37) with
    | false => rfl
    | true =>
      have : c = 37 := by simpa using hb
      subst this
      exact absurd h (by decide)
  · rw [List.append_nil, signL_cons, if_neg (by simp [hd.1]), if_neg (by simp [hd.2.1, headB]), if_neg hd.2.2, if_neg (by simp [headB]), if_pos h]; rfl
theorem good_term {t : Bb} (h : rightT t = true) (q : Nat) : Good rightK (kindT t, bytesT t, q) := by
  unfold rightT at h
  unfold kindT bytesT
  by_cases h0 : t.1.size = 0
  · rw [if_pos h0] at h
    have hne : ¬ t.1.size ≠ 0 := by omega
    rw [if_neg hne, if_neg hne]
    unfold rightVv rightB at h
    by_cases k1 : t.2.1 = 1
    · rw [if_pos k1]
      simp only [k1] at h
      have hb : t.2.2.2.data.toList = [] ∧ -4611686018427387904 ≤ t.2.2.1 ∧ t.2.2.1 ≤ 4611686018427387904 := by simpa using h
      have e : textL t.2.1 t.2.2.1 t.2.2.2.data.toList = Lib.itoa t.2.2.1 := by unfold textL; rw [if_pos k1]
      rw [e]; exact good_num hb.2.1 hb.2.2 q
    · rw [if_neg k1]
      by_cases k2 : t.2.1 = 2
      · rw [if_pos k2]
        simp only [k2] at h
        have hb : t.2.2.1 = 0 ∧ symB t.2.2.2.data.toList = true := by simpa using h
        have e : textL t.2.1 t.2.2.1 t.2.2.2.data.toList = t.2.2.2.data.toList := by unfold textL; rw [if_neg k1, if_pos k2]
        rw [e]; exact good_sym hb.2 q
      · rw [if_neg k2]
        have e : textL t.2.1 t.2.2.1 t.2.2.2.data.toList = quoteL t.2.2.2.data.toList := by unfold textL; rw [if_neg k1, if_neg k2]
        have hb : strB t.2.2.2.data.toList = true := by
          by_cases k3 : t.2.1 = 3
          · have hb : t.2.2.1 = 0 ∧ strB t.2.2.2.data.toList = true := by simpa [k3] using h
            exact hb.2
          · simp [k1, k2, k3] at h
        rw [e]; exact good_str hb q
  · rw [if_neg h0] at h
    rw [if_pos h0, if_pos h0]
    rw [Bool.and_eq_true] at h
    exact good_var h.1 q
end Go.Proofs.YtcjnhhbcleljmaaGreatDoor.V
namespace Go.Proofs.YtcjnhhbcleljmaaGreatDoor.V

/-- A sign without its place. -/
abbrev Kt := Int × List UInt8
/-- The term that a sign is. -/
def termR (t : Kt) : Option Bb :=
  if t.1 = 1 then (if symB t.2 = true then some (⟨#[]⟩, (2, 0, ⟨t.2.toArray⟩)) else none)
  else if t.1 = 2 then (if varB t.2 = true then some (⟨t.2.toArray⟩, zeroV) else none)
  else if t.1 = 3 then (numGo t.2).map (fun n => (⟨#[]⟩, (1, n, ⟨#[]⟩)))
  else if t.1 = 4 then (quotedGo t.2).map (fun s => (⟨#[]⟩, (3, 0, ⟨s.toArray⟩)))
  else none
theorem bytes_of (s : ByteArray) : (⟨s.data.toList.toArray⟩ : ByteArray) = s := bytes_ext (by simp)
theorem empty_of {s : ByteArray} (h : s.size = 0) : s = ⟨#[]⟩ := bytes_ext (List.eq_nil_of_length_eq_zero (by simpa using h))
theorem empty_list' {s : ByteArray} (h : s.data.toList = []) : s = ⟨#[]⟩ := bytes_ext h
/-- A term's sign is read as the term. -/
theorem term_read {t : Bb} (h : rightT t = true) : termR (kindT t, bytesT t) = some t := by
  obtain ⟨v, k, n, s⟩ := t
  unfold rightT at h
  unfold kindT bytesT
  simp only at h ⊢
  by_cases h0 : v.size = 0
  · rw [if_pos h0] at h
    have hne : ¬ v.size ≠ 0 := by omega
    rw [if_neg hne, if_neg hne]
    have hv : v = ⟨#[]⟩ := empty_of h0
    subst hv
    unfold rightVv rightB at h
    simp only at h
    by_cases k1 : k = 1
    · subst k1
      have hb : s.data.toList = [] ∧ -4611686018427387904 ≤ n ∧ n ≤ 4611686018427387904 := by simpa using h
      have hs := empty_list' hb.1
      subst hs
      rw [if_pos rfl, show textL 1 n (⟨#[]⟩ : ByteArray).data.toList = Lib.itoa n from by unfold textL; rw [if_pos rfl]]
      unfold termR
      simp only
      rw [if_neg (by decide), if_neg (by decide), if_pos trivial, numGo_itoa n hb.2.1 hb.2.2]
      rfl
    · by_cases k2 : k = 2
      · subst k2
        have hb : n = 0 ∧ symB s.data.toList = true := by simpa using h
        obtain ⟨rfl, hs⟩ := hb
        rw [if_neg (by decide), if_pos rfl, show textL 2 0 s.data.toList = s.data.toList from by unfold textL; rw [if_neg (by decide), if_pos rfl]]
        unfold termR
        simp only
        rw [if_pos trivial, if_pos hs, bytes_of]
      · have k3 : k = 3 := by
          by_cases k3 : k = 3
          · exact k3
          · simp [k1, k2, k3] at h
        subst k3
        have hb : n = 0 ∧ strB s.data.toList = true := by simpa using h
        obtain ⟨rfl, hs⟩ := hb
        rw [if_neg (by decide), if_neg (by decide), show textL 3 0 s.data.toList = quoteL s.data.toList from by unfold textL; rw [if_neg (by decide), if_neg (by decide)]]
        unfold termR
        simp only
        rw [if_neg (by decide), if_neg (by decide), if_neg (by decide), if_pos trivial, quotedGo_quote _ hs, Option.map_some, bytes_of]
  · rw [if_neg h0] at h
    rw [if_pos h0, if_pos h0]
    rw [Bool.and_eq_true, decide_eq_true_eq] at h
    obtain ⟨h1, h2⟩ := h
    unfold termR
    simp only
    rw [if_neg (by decide), if_pos trivial, if_pos h1, bytes_of, h2]
theorem numGo_bd {l : List UInt8} {n : Int} (h : numGo l = some n) : -4611686018427387904 ≤ n ∧ n ≤ 4611686018427387904 := by
  have hrest : ∀ (b : Bool) (l : List UInt8) (n : Int), numRest b l = some n → -4611686018427387904 ≤ n ∧ n ≤ 4611686018427387904 := by
    intro b l n h
    unfold numRest at h
    split at h
    · cases h
    · split at h
      · rename_i ha
        have hb := numFold_bd l ha
        split at h
        · cases h
        · cases h
          split <;> omega
      · cases h
  unfold numGo at h
  split at h
  · cases h
  · split at h
    · exact hrest _ _ _ h
    · exact hrest _ _ _ h
/-- What is read as a term is right. -/
theorem termR_right {t : Kt} {v : Bb} (h : termR t = some v) : rightT v = true := by
  have right0 : ∀ x : Vv, rightVv x = true → rightT (⟨#[]⟩, x) = true := fun x hx => by
    unfold rightT; rw [if_pos (show (⟨#[]⟩ : ByteArray).size = 0 from rfl)]; exact hx
  unfold termR at h
  split at h
  · split at h
    · rename_i hs
      cases h
      exact right0 _ (by simp [rightVv, rightB, hs])
    · cases h
  · split at h
    · split at h
      · rename_i hs
        cases h
        unfold rightT
        have hne : ¬ (⟨t.2.toArray⟩ : ByteArray).size = 0 := by
          intro e
          have e' : t.2.length = 0 := e
          have : t.2 = [] := List.eq_nil_of_length_eq_zero e'
          rw [this] at hs
          cases hs
        rw [if_neg hne]
        simp [hs]
      · cases h
    · split at h
      · simp only [Option.map_eq_some_iff] at h
        obtain ⟨n, hn, rfl⟩ := h
        have hb := numGo_bd hn
        exact right0 _ (by simp [rightVv, rightB, hb.1, hb.2])
      · split at h
        · simp only [Option.map_eq_some_iff] at h
          obtain ⟨s, hs, rfl⟩ := h
          have hb := (quoted_back hs).1
          exact right0 _ (by simp [rightVv, rightB, hb])
        · cases h

/-- Terms behind a bracket, commas between, up to the bracket that closes: read from place p on. -/
def readTs : List Kt → Nat → Except Nat (List Bb × Nat)
  | [], p => .error p
  | t :: r, p => match termR t with
    | none => .error p
    | some v => match r with
      | [] => .error (p + 1)
      | c :: r' => if c = (5, [44]) then (match readTs r' (p + 2) with
          | .ok x => .ok (v :: x.1, x.2)
          | .error e => .error e) else if c = (5, [41]) then .ok ([v], p + 2) else .error (p + 1)
/-- An atom: its name's bytes, its terms. -/
abbrev At := List UInt8 × List Bb
def readAt (ts : List Kt) (p : Nat) : Except Nat (At × Nat) := match ts with
  | [] => .error p
  | t :: r => if t.1 = 1 ∧ nameB t.2 = true then (match r with
      | [] => .ok ((t.2, []), p + 1)
      | c :: r' => if c = (5, [40]) then (match readTs r' (p + 2) with
          | .ok x => .ok ((t.2, x.1), x.2)
          | .error e => .error e) else .ok ((t.2, []), p + 1)) else .error p
/-- Five terms at the most: else it is none where it begins. -/
def readA (ts : List Kt) (at_ : Nat) : Except Nat (At × Nat) := match readAt (ts.drop at_) at_ with
  | .ok x => if x.1.2.length ≤ 5 then .ok x else .error at_
  | .error e => .error e
def rightA (a : At) : Bool := nameB a.1 && (decide (a.2.length ≤ 5) && a.2.all rightT)
def tokT (t : Bb) : Kt := (kindT t, bytesT t)
def termsK : List Bb → List Kt
  | [] => []
  | t :: r => tokT t :: (match r with
    | [] => [(5, [41])]
    | _ :: _ => (5, [44]) :: termsK r)
def atomK (a : At) : List Kt := (1, a.1) :: (match a.2 with
  | [] => []
  | _ :: _ => (5, [40]) :: termsK a.2)
theorem termsK_two (t u : Bb) (r : List Bb) : termsK (t :: u :: r) = tokT t :: (5, [44]) :: termsK (u :: r) := rfl
theorem termsK_len : ∀ (ts : List Bb), (termsK ts).length = 2 * ts.length := by
  intro ts
  induction ts with
  | nil => rfl
  | cons t r ih =>
    cases r with
    | nil => rfl
    | cons u r => rw [termsK_two, List.length_cons, List.length_cons, ih]; simp; omega
theorem readTs_cons (t : Kt) (r : List Kt) (p : Nat) : readTs (t :: r) p = (match termR t with
    | none => .error p
    | some v => match r with
      | [] => .error (p + 1)
      | c :: r' => if c = (5, [44]) then (match readTs r' (p + 2) with
          | .ok x => .ok (v :: x.1, x.2)
          | .error e => .error e) else if c = (5, [41]) then .ok ([v], p + 2) else .error (p + 1)) := by
  conv => lhs; unfold readTs
theorem readTs_terms : ∀ {ts : List Bb} {rest : List Kt} {p : Nat}, ts ≠ [] → (∀ t ∈ ts, rightT t = true) → readTs (termsK ts ++ rest) p = .ok (ts, p + 2 * ts.length) := by
  intro ts
  induction ts with
  | nil => intro rest p h _; exact absurd rfl h
  | cons t r ih =>
    intro rest p _ hr
    have ht := term_read (hr t (by simp))
    cases r with
    | nil =>
      show readTs (tokT t :: (5, [41]) :: rest) p = _
      rw [readTs_cons, show termR (tokT t) = some t from ht]
      simp
    | cons u r =>
      rw [termsK_two]
      show readTs (tokT t :: (5, [44]) :: (termsK (u :: r) ++ rest)) p = _
      rw [readTs_cons, show termR (tokT t) = some t from ht]
      simp only
      rw [if_pos trivial, ih (by simp) (fun x hx => hr x (by simp [hx]))]
      simp; omega
/-- What is written of an atom is read, whatever stands behind, if it is no bracket. -/
theorem readAt_atom {a : At} {rest : List Kt} {p : Nat} (h : rightA a = true) (hr : ∀ c r, rest = c :: r → c ≠ (5, [40])) : readAt (atomK a ++ rest) p = .ok (a, p + (atomK a).length) := by
  obtain ⟨n, ts⟩ := a
  simp only [rightA, Bool.and_eq_true, decide_eq_true_eq, List.all_eq_true] at h
  obtain ⟨h1, h2, h3⟩ := h
  cases ts with
  | nil =>
    show readAt ((1, n) :: rest) p = _
    unfold readAt
    simp only
    rw [if_pos ⟨trivial, h1⟩]
    cases rest with
    | nil => rfl
    | cons c r =>
      simp only
      rw [if_neg (hr c r rfl)]; rfl
  | cons t r =>
    show readAt ((1, n) :: (5, [40]) :: (termsK (t :: r) ++ rest)) p = _
    unfold readAt
    simp only
    rw [if_pos ⟨trivial, h1⟩, if_pos trivial, readTs_terms (by simp) h3]
    show Except.ok ((n, t :: r), p + 2 + 2 * (t :: r).length) = _
    have : (atomK (n, t :: r)).length = 2 + 2 * (t :: r).length := by
      show ((1, n) :: (5, [40]) :: termsK (t :: r)).length = _
      rw [List.length_cons, List.length_cons, termsK_len]; omega
    rw [this]
    congr 2; omega
theorem readTs_right : ∀ (m : Nat) {ts : List Kt} {p : Nat} {x : List Bb × Nat}, ts.length ≤ m → readTs ts p = .ok x → (∀ t ∈ x.1, rightT t = true) ∧ p < x.2 ∧ x.2 ≤ p + ts.length ∧ x.1 ≠ [] := by
  intro m
  induction m with
  | zero =>
    intro ts p x hm h
    have : ts = [] := List.eq_nil_of_length_eq_zero (by omega)
    subst this
    cases h
  | succ m ih =>
    intro ts p x hm h
    cases ts with
    | nil => cases h
    | cons t r =>
      rw [readTs_cons] at h
      cases ht : termR t with
      | none => rw [ht] at h; cases h
      | some v =>
        rw [ht] at h
        cases r with
        | nil => cases h
        | cons c r' =>
          simp only at h
          split at h
          · cases hr : readTs r' (p + 2) with
            | error e => rw [hr] at h; cases h
            | ok y =>
              rw [hr] at h
              cases h
              obtain ⟨i1, i2, i3, i4⟩ := ih (by simp at hm; omega) hr
              refine ⟨fun u hu => ?_, by simp only; omega, by simp only [List.length_cons]; omega, by simp⟩
              rcases List.mem_cons.1 hu with rfl | hu
              · exact termR_right ht
              · exact i1 u hu
          · split at h
            · cases h
              refine ⟨fun u hu => ?_, by simp only; omega, by simp, by simp⟩
              rw [List.mem_singleton.1 hu]; exact termR_right ht
            · cases h
/-- What is read as an atom is right. -/
theorem readA_right {ts : List Kt} {p : Nat} {x : At × Nat} (h : readA ts p = .ok x) : rightA x.1 = true ∧ p < x.2 ∧ x.2 ≤ ts.length := by
  unfold readA at h
  cases hr : readAt (ts.drop p) p with
  | error e => rw [hr] at h; cases h
  | ok y =>
    rw [hr] at h
    simp only at h
    split at h
    case isFalse => cases h
    rename_i h5
    cases h
    unfold readAt at hr
    cases hd : ts.drop p with
    | nil => rw [hd] at hr; cases hr
    | cons t r =>
      have hlen : (t :: r).length = ts.length - p := by rw [← hd]; simp
      rw [hd] at hr
      simp only at hr
      split at hr
      case isFalse => cases hr
      rename_i hn
      cases r with
      | nil =>
        cases hr
        refine ⟨by simp [rightA, hn.2], by simp only; omega, by simp only; simp at hlen; omega⟩
      | cons c r' =>
        simp only at hr
        split at hr
        · cases hq : readTs r' (p + 2) with
          | error e => rw [hq] at hr; cases hr
          | ok y =>
            rw [hq] at hr
            cases hr
            obtain ⟨i1, i2, i3, i4⟩ := readTs_right _ (Nat.le_refl _) hq
            refine ⟨?_, by simp only; omega, by simp only; simp at hlen; omega⟩
            simp only [rightA, Bool.and_eq_true, decide_eq_true_eq, List.all_eq_true]
            exact ⟨hn.2, h5, i1⟩
        · cases hr
          refine ⟨by simp [rightA, hn.2], by simp only; omega, by simp only; simp at hlen; omega⟩
end Go.Proofs.YtcjnhhbcleljmaaGreatDoor.V
namespace Go.Proofs.YtcjnhhbcleljmaaGreatDoor.V

/-- What stands behind a word or a number: its end, a blank, a comma, a bracket that closes, a point. -/
def stopB (c : UInt8) : Bool := c == 32 || c == 44 || c == 41 || c == 93 || c == 46
def Stop (r : List UInt8) : Prop := r = [] ∨ headB stopB r = true
theorem stop_cases {c : UInt8} (h : stopB c = true) : c = 32 ∨ c = 44 ∨ c = 41 ∨ c = 93 ∨ c = 46 := by
  simp only [stopB, Bool.or_eq_true, beq_iff_eq] at h
  rcases h with (((h | h) | h) | h) | h
  · exact Or.inl h
  · exact Or.inr (Or.inl h)
  · exact Or.inr (Or.inr (Or.inl h))
  · exact Or.inr (Or.inr (Or.inr (Or.inl h)))
  · exact Or.inr (Or.inr (Or.inr (Or.inr h)))
theorem stop_head {p : UInt8 → Bool} (hp : ∀ c, stopB c = true → p c = false) {r : List UInt8} (h : Stop r) : headB p r = false := by
  rcases h with rfl | h
  · rfl
  · cases r with
    | nil => rfl
    | cons c r => exact hp c h
theorem stop_inn (c : UInt8) (h : stopB c = true) : innB c = false := by
  rcases stop_cases h with rfl | rfl | rfl | rfl | rfl <;> decide
theorem stop_dig (c : UInt8) (h : stopB c = true) : digC c = false := by
  rcases stop_cases h with rfl | rfl | rfl | rfl | rfl <;> decide
theorem stop_cons {c : UInt8} {r : List UInt8} (h : stopB c = true) : Stop (c :: r) := Or.inr h
/-- Behind a word, a number, a string. -/
theorem safe_stop {k : Int} {x r : List UInt8} (hk : k ≠ 5) (h : Stop r) : Safe k x r :=
  ⟨fun _ => stop_head stop_inn h, fun _ => stop_head stop_dig h, fun e => absurd e hk⟩
/-- Behind a mark that begins no longer one. -/
def loneB (c : UInt8) : Bool := !(c == 33) && !(c == 60) && !(c == 45) && !(c == 61)
theorem safe_lone {c : UInt8} {r : List UInt8} (h : loneB c = true) : Safe 5 [c] r := by
  simp only [loneB, Bool.and_eq_true, Bool.not_eq_true'] at h
  obtain ⟨⟨⟨h1, h2⟩, h3⟩, h4⟩ := h
  refine ⟨fun e => by omega, fun e => by omega, fun _ d hd => ?_⟩
  have hcd : c = d := (List.cons.inj hd).1
  subst hcd
  refine ⟨?_, fun e => by subst e; cases h3⟩
  cases r with
  | nil => rfl
  | cons e r => simp [headB, twoB, h1, h2, h3, h4]
/-- Behind a mark with a blank behind it. -/
theorem safe_blank {c : UInt8} {r : List UInt8} : Safe 5 [c] (32 :: r) := by
  refine ⟨fun e => by omega, fun e => by omega, fun _ d _ => ⟨?_, fun _ => rfl⟩⟩
  simp [headB, twoB]
theorem kindT_ne (t : Bb) : kindT t ≠ 5 := by
  unfold kindT
  split
  · decide
  · split
    · decide
    · split <;> decide

/-- Terms, commas and blanks between, and the bracket that closes. -/
def argsL : List Bb → List UInt8
  | [] => []
  | t :: r => bytesT t ++ (match r with
    | [] => [41]
    | _ :: _ => 44 :: 32 :: argsL r)
def textA (a : At) : List UInt8 := a.1 ++ (match a.2 with
  | [] => []
  | _ :: _ => 40 :: argsL a.2)
/-- Its signs, and what stands ahead of each. -/
def argsPs (s : List UInt8) : List Bb → List (List UInt8 × Tk)
  | [] => []
  | t :: r => (s, kindT t, bytesT t, 0) :: (match r with
    | [] => [([], 5, [41], 0)]
    | _ :: _ => ([], 5, [44], 0) :: argsPs [32] r)
def atomPs (s : List UInt8) (a : At) : List (List UInt8 × Tk) := (s, 1, a.1, 0) :: (match a.2 with
  | [] => []
  | _ :: _ => ([], 5, [40], 0) :: argsPs [] a.2)
theorem argsPs_two (s : List UInt8) (t u : Bb) (r : List Bb) : argsPs s (t :: u :: r) = (s, kindT t, bytesT t, 0) :: ([], 5, [44], 0) :: argsPs [32] (u :: r) := rfl
theorem argsL_two (t u : Bb) (r : List Bb) : argsL (t :: u :: r) = bytesT t ++ 44 :: 32 :: argsL (u :: r) := rfl
theorem glue_args : ∀ (ts : List Bb) (s : List UInt8), ts ≠ [] → glue (argsPs s ts) = s ++ argsL ts := by
  intro ts
  induction ts with
  | nil => intro s h; exact absurd rfl h
  | cons t r ih =>
    intro s _
    cases r with
    | nil => simp [argsPs, argsL, glue]
    | cons u r => rw [argsPs_two, argsL_two]; simp [glue, ih [32] (by simp)]
theorem glue_atom (s : List UInt8) (a : At) : glue (atomPs s a) = s ++ textA a := by
  obtain ⟨n, ts⟩ := a
  cases ts with
  | nil => simp [atomPs, textA, glue]
  | cons t r => simp [atomPs, textA, glue, glue_args (t :: r) [] (by simp)]
theorem kt_args : ∀ (ts : List Bb) (s : List UInt8), (argsPs s ts).map (fun p => kt p.2) = termsK ts := by
  intro ts
  induction ts with
  | nil => intro s; rfl
  | cons t r ih =>
    intro s
    cases r with
    | nil => rfl
    | cons u r => rw [argsPs_two, termsK_two, List.map_cons, List.map_cons, ih]; rfl
theorem kt_atom (s : List UInt8) (a : At) : (atomPs s a).map (fun p => kt p.2) = atomK a := by
  obtain ⟨n, ts⟩ := a
  cases ts with
  | nil => rfl
  | cons t r =>
    show (1, n) :: (5, [40]) :: (argsPs [] (t :: r)).map (fun p => kt p.2) = _
    rw [kt_args]; rfl
theorem sep_one : Sep [32] := sep_blank rfl sep_nil
theorem good_args : ∀ (ts : List Bb) {s : List UInt8}, Sep s → (∀ t ∈ ts, rightT t = true) → ∀ p ∈ argsPs s ts, Good rightK p.2 ∧ Sep p.1 := by
  intro ts
  induction ts with
  | nil => intro s _ _ p hp; cases hp
  | cons t r ih =>
    intro s hs h p hp
    cases r with
    | nil =>
      rcases List.mem_cons.1 hp with rfl | hp
      · exact ⟨good_term (h t (by simp)) 0, hs⟩
      · rw [List.mem_singleton.1 hp]
        exact ⟨good_mark (by decide) ⟨by decide, by decide, by decide⟩ 0, sep_nil⟩
    | cons u r =>
      rw [argsPs_two] at hp
      rcases List.mem_cons.1 hp with rfl | hp
      · exact ⟨good_term (h t (by simp)) 0, hs⟩
      · rcases List.mem_cons.1 hp with rfl | hp
        · exact ⟨good_mark (by decide) ⟨by decide, by decide, by decide⟩ 0, sep_nil⟩
        · exact ih sep_one (fun x hx => h x (by simp [hx])) p hp
theorem safe_args : ∀ (ts : List Bb) (s : List UInt8) {R : List (List UInt8 × Tk)}, SafeAll R → SafeAll (argsPs s ts ++ R) := by
  intro ts
  induction ts with
  | nil => intro s R h; exact h
  | cons t r ih =>
    intro s R h
    cases r with
    | nil => exact ⟨safe_stop (kindT_ne t) (stop_cons (by decide)), safe_lone (by decide), h⟩
    | cons u r =>
      rw [argsPs_two]
      exact ⟨safe_stop (kindT_ne t) (stop_cons (by decide)), safe_lone (by decide), ih [32] h⟩
theorem good_atom {a : At} (h : rightA a = true) {s : List UInt8} (hs : Sep s) : ∀ p ∈ atomPs s a, Good rightK p.2 ∧ Sep p.1 := by
  obtain ⟨n, ts⟩ := a
  simp only [rightA, Bool.and_eq_true, decide_eq_true_eq, List.all_eq_true] at h
  obtain ⟨h1, h2, h3⟩ := h
  have hn : symB n = true := by
    simp only [nameB, Bool.and_eq_true] at h1
    exact h1.1
  intro p hp
  rcases List.mem_cons.1 hp with rfl | hp
  · exact ⟨good_sym hn 0, hs⟩
  · cases ts with
    | nil => cases hp
    | cons t r =>
      rcases List.mem_cons.1 hp with rfl | hp
      · exact ⟨good_mark (by decide) ⟨by decide, by decide, by decide⟩ 0, sep_nil⟩
      · exact good_args (t :: r) sep_nil h3 p hp
theorem safe_paren {n r : List UInt8} : Safe 1 n (40 :: r) := by
  refine ⟨fun _ => ?_, fun _ => ?_, fun e => by omega⟩
  · show innB 40 = false
    decide
  · show digC 40 = false
    decide
theorem safe_atom (a : At) (s : List UInt8) {R : List (List UInt8 × Tk)} (hst : Stop (glue R)) (h : SafeAll R) : SafeAll (atomPs s a ++ R) := by
  obtain ⟨n, ts⟩ := a
  cases ts with
  | nil => exact ⟨safe_stop (show (1 : Int) ≠ 5 by decide) hst, h⟩
  | cons t r =>
    refine ⟨?_, safe_lone (by decide), safe_args (t :: r) [] h⟩
    exact safe_paren
/-- An atom's text, whatever stands behind it that may: the atom's signs, then those. -/
theorem lex_atom {a : At} (h : rightA a = true) {R : List (List UInt8 × Tk)} (hst : Stop (glue R)) (hs : SafeAll R) (hg : ∀ p ∈ R, Good rightK p.2 ∧ Sep p.1) (q : Nat) :
    ∃ us, lexA rightK (textA a ++ glue R) q = .ok us ∧ us.map kt = atomK a ++ R.map (fun p => kt p.2) := by
  obtain ⟨us, h1, h2⟩ := lex_safe (R := rightK) (ps := atomPs [] a ++ R) (q := q) (fun p hp => by
    rcases List.mem_append.1 hp with hp | hp
    · exact good_atom h sep_nil p hp
    · exact hg p hp) (safe_atom a [] hst hs)
  rw [glue_app, glue_atom, List.nil_append] at h1
  rw [List.map_append, kt_atom] at h2
  exact ⟨us, h1, h2⟩
theorem atomK_pos (a : At) : 1 ≤ (atomK a).length := by simp [atomK]
/-- Its text alone is read as itself. -/
theorem read_text {a : At} (h : rightA a = true) (q : Nat) : ∃ us, lexA rightK (textA a) q = .ok us ∧ us.map kt = atomK a ∧ readA (us.map kt) 0 = .ok (a, us.length) := by
  obtain ⟨us, h1, h2⟩ := lex_atom h (R := []) (Or.inl rfl) trivial (fun p hp => by cases hp) q
  rw [show glue [] = [] from rfl, List.append_nil] at h1
  rw [List.map_nil, List.append_nil] at h2
  refine ⟨us, h1, h2, ?_⟩
  have hr := readAt_atom (rest := []) (p := 0) h (fun c r e => by cases e)
  have hl : us.length = (atomK a).length := by rw [← h2, List.length_map]
  unfold readA
  rw [h2, List.drop_zero]
  rw [List.append_nil] at hr
  rw [hr, hl]
  simp only [Nat.zero_add]
  rw [if_pos]
  simp only [rightA, Bool.and_eq_true, decide_eq_true_eq] at h
  exact h.2.1
/-- Unlike atoms have unlike texts. -/
theorem textA_inj {a b : At} (ha : rightA a = true) (hb : rightA b = true) (h : textA a = textA b) : a = b := by
  obtain ⟨us, h1, h2, h3⟩ := read_text ha 0
  obtain ⟨vs, k1, k2, k3⟩ := read_text hb 0
  rw [h, k1] at h1
  cases h1
  rw [k3] at h3
  cases h3
  rfl
end Go.Proofs.YtcjnhhbcleljmaaGreatDoor.V
namespace Go.Proofs.YtcjnhhbcleljmaaGreatDoor.V

/-- So many stacked: so many whole ones, side by side. -/
theorem split_many : ∀ (k : Nat) {l : List Oo} {n : Nat}, l.length ≤ k → runD 0 l = some n → ∃ ws : List (List Oo), ws.length = n ∧ l = ws.flatten ∧ ∀ w ∈ ws, runD 0 w = some 1 := by
  intro k
  induction k with
  | zero =>
    intro l n hk h
    have : l = [] := List.eq_nil_of_length_eq_zero (by omega)
    subst this
    cases h
    exact ⟨[], rfl, rfl, fun w hw => by cases hw⟩
  | succ k ih =>
    intro l n hk h
    by_cases hl : l = []
    · subst hl
      cases h
      exact ⟨[], rfl, rfl, fun w hw => by cases hw⟩
    have e := (List.dropLast_concat_getLast hl).symm
    generalize l.getLast hl = o at e
    generalize l.dropLast = i at e
    subst e
    rw [run_app] at h
    cases hi : runD 0 i with
    | none => rw [hi] at h; cases h
    | some m =>
      rw [hi, Option.bind_some] at h
      obtain ⟨ws, w1, w2, w3⟩ := ih (by simp at hk; omega) hi
      simp only [runD, stepD] at h
      by_cases hp : pushO o = true
      · rw [if_pos hp] at h
        have hn : m + 1 = n := by simpa using h
        refine ⟨ws ++ [[o]], by simp; omega, by simp [w2], fun w hw => ?_⟩
        rcases List.mem_append.1 hw with hw | hw
        · exact w3 w hw
        · rw [List.mem_singleton.1 hw]
          simp [runD, stepD, hp]
      · rw [if_neg hp] at h
        by_cases h2 : 2 ≤ m
        case neg => rw [if_neg h2] at h; cases h
        rw [if_pos h2] at h
        have hn : m - 1 = n := by simpa using h
        have hw0 : ws ≠ [] := by rintro rfl; simp at w1; omega
        have e1 := (List.dropLast_concat_getLast hw0).symm
        generalize ws.getLast hw0 = y at e1
        generalize ws.dropLast = vs at e1
        subst e1
        have hv0 : vs ≠ [] := by rintro rfl; simp at w1; omega
        have e2 := (List.dropLast_concat_getLast hv0).symm
        generalize vs.getLast hv0 = x at e2
        generalize vs.dropLast = us at e2
        subst e2
        refine ⟨us ++ [x ++ y ++ [o]], by simp at w1 ⊢; omega, by simp [w2], fun w hw => ?_⟩
        rcases List.mem_append.1 hw with hw | hw
        · exact w3 w (by simp [hw])
        · rw [List.mem_singleton.1 hw]
          have hx := w3 x (by simp)
          have hy := w3 y (by simp)
          rw [run_app, run_app, hx, Option.bind_some, run_add 1 hy, Option.bind_some]
          simp [runD, stepD, hp]
/-- A whole one: a push, or two whole ones and what is done to both. -/
theorem split_one {l : List Oo} (h : runD 0 l = some 1) : (∃ o, l = [o] ∧ pushO o = true) ∨ ∃ x y o, l = x ++ y ++ [o] ∧ runD 0 x = some 1 ∧ runD 0 y = some 1 ∧ pushO o = false := by
  have hl : l ≠ [] := by rintro rfl; cases h
  have e := (List.dropLast_concat_getLast hl).symm
  generalize l.getLast hl = o at e
  generalize l.dropLast = i at e
  subst e
  rw [run_app] at h
  cases hi : runD 0 i with
  | none => rw [hi] at h; cases h
  | some m =>
    rw [hi, Option.bind_some] at h
    obtain ⟨ws, w1, w2, w3⟩ := split_many _ (Nat.le_refl _) hi
    simp only [runD, stepD] at h
    by_cases hp : pushO o = true
    · rw [if_pos hp] at h
      have hn : m + 1 = 1 := by simpa using h
      have : ws = [] := List.eq_nil_of_length_eq_zero (by omega)
      subst this
      exact Or.inl ⟨o, by simp [w2], hp⟩
    · rw [if_neg hp] at h
      by_cases h2 : 2 ≤ m
      case neg => rw [if_neg h2] at h; cases h
      rw [if_pos h2] at h
      have hn : m - 1 = 1 := by simpa using h
      match ws, w1, w2, w3 with
      | [x, y], _, w2, w3 =>
        exact Or.inr ⟨x, y, o, by simp [w2], w3 x (by simp), w3 y (by simp), by simpa using hp⟩
      | [], w1, _, _ => simp at w1; omega
      | [_], w1, _, _ => simp at w1; omega
      | _ :: _ :: _ :: _, w1, _, _ => simp at w1; omega
theorem runD_pos {l : List Oo} (h : runD 0 l = some 1) : 1 ≤ l.length := by
  cases l with
  | nil => cases h
  | cons o l => simp
/-- What holds of pushes and, with both parts, of what is done to them, holds of all. -/
theorem whole_ind {P : List Oo → Prop} (leaf : ∀ o, pushO o = true → P [o]) (node : ∀ x y o, runD 0 x = some 1 → runD 0 y = some 1 → pushO o = false → P x → P y → P (x ++ y ++ [o])) : ∀ {l : List Oo}, runD 0 l = some 1 → P l := by
  have key : ∀ (k : Nat) {l : List Oo}, l.length ≤ k → runD 0 l = some 1 → P l := by
    intro k
    induction k with
    | zero => intro l hk h; have := runD_pos h; omega
    | succ k ih =>
      intro l hk h
      rcases split_one h with ⟨o, rfl, hp⟩ | ⟨x, y, o, rfl, hx, hy, hp⟩
      · exact leaf o hp
      · have := runD_pos hx
        have := runD_pos hy
        simp at hk
        exact node x y o hx hy hp (ih (by omega) hx) (ih (by omega) hy)
  intro l h
  exact key _ (Nat.le_refl _) h

section
variable {α : Type} (leaf : Oo → α) (node : Oo → α → α → α)
/-- A step over values stacked, the last one ahead. -/
def stepF (s : List α) (o : Oo) : List α := if pushO o = true then leaf o :: s else match s with
  | y :: x :: r => node o x y :: r
  | _ => s
def foldF (s : List α) (l : List Oo) : List α := l.foldl (stepF leaf node) s
theorem fold_app' (s : List α) (l r : List Oo) : foldF leaf node s (l ++ r) = foldF leaf node (foldF leaf node s l) r := by
  unfold foldF; rw [List.foldl_append]
/-- A whole one leaves one value more, whatever lies below. -/
theorem fold_whole {l : List Oo} (h : runD 0 l = some 1) : ∃ v, ∀ s, foldF leaf node s l = v :: s := by
  refine whole_ind (P := fun l => ∃ v, ∀ s, foldF leaf node s l = v :: s) ?_ ?_ h
  · intro o hp
    exact ⟨leaf o, fun s => by simp [foldF, stepF, hp]⟩
  · rintro x y o _ _ hp ⟨v, hv⟩ ⟨u, hu⟩
    refine ⟨node o v u, fun s => ?_⟩
    rw [fold_app', fold_app', hv, hu]
    simp [foldF, stepF, hp]
variable (z : α)
def valF (l : List Oo) : α := (foldF leaf node [] l).headD z
theorem foldF_val {l : List Oo} (h : runD 0 l = some 1) (s : List α) : foldF leaf node s l = valF leaf node z l :: s := by
  obtain ⟨v, hv⟩ := fold_whole leaf node h
  unfold valF
  rw [hv, hv]; rfl
theorem val_leaf {o : Oo} (hp : pushO o = true) : valF leaf node z [o] = leaf o := by
  simp [valF, foldF, stepF, hp]
theorem val_node {x y : List Oo} {o : Oo} (hx : runD 0 x = some 1) (hy : runD 0 y = some 1) (hp : pushO o = false) : valF leaf node z (x ++ y ++ [o]) = node o (valF leaf node z x) (valF leaf node z y) := by
  conv => lhs; unfold valF
  rw [fold_app', fold_app', foldF_val leaf node z hx, foldF_val leaf node z hy]
  simp [foldF, stepF, hp]
end

/-- A push's term; a term's push; a step's mark. -/
def termO (o : Oo) : Bb := if o.1 = 1 then (o.2.1, zeroV) else (⟨#[]⟩, o.2.2)
def pushT (t : Bb) : Oo := if t.1.size ≠ 0 then (1, t.1, zeroV) else (2, ⟨#[]⟩, t.2)
def markO (k : Int) : UInt8 := if k = 3 then 43 else if k = 4 then 45 else 42
def textX (l : List Oo) : List UInt8 := valF (fun o => bytesT (termO o)) (fun o x y => 40 :: (x ++ 32 :: markO o.1 :: 32 :: (y ++ [41]))) [] l
def exprK (l : List Oo) : List Kt := valF (fun o => [tokT (termO o)]) (fun o x y => (5, [40]) :: (x ++ (5, [markO o.1]) :: (y ++ [(5, [41])]))) [] l
def exprPs (l : List Oo) : List UInt8 → List (List UInt8 × Tk) := valF (fun o s => [(s, kindT (termO o), bytesT (termO o), 0)]) (fun o x y s => (s, 5, [40], 0) :: (x [] ++ ([32], 5, [markO o.1], 0) :: (y [32] ++ [([], 5, [41], 0)]))) (fun _ => []) l
theorem textX_leaf {o : Oo} (hp : pushO o = true) : textX [o] = bytesT (termO o) := val_leaf _ _ _ hp
theorem textX_node {x y : List Oo} {o : Oo} (hx : runD 0 x = some 1) (hy : runD 0 y = some 1) (hp : pushO o = false) : textX (x ++ y ++ [o]) = 40 :: (textX x ++ 32 :: markO o.1 :: 32 :: (textX y ++ [41])) := val_node _ _ _ hx hy hp
theorem exprK_leaf {o : Oo} (hp : pushO o = true) : exprK [o] = [tokT (termO o)] := val_leaf _ _ _ hp
theorem exprK_node {x y : List Oo} {o : Oo} (hx : runD 0 x = some 1) (hy : runD 0 y = some 1) (hp : pushO o = false) : exprK (x ++ y ++ [o]) = (5, [40]) :: (exprK x ++ (5, [markO o.1]) :: (exprK y ++ [(5, [41])])) := val_node _ _ _ hx hy hp
theorem exprPs_leaf {o : Oo} (hp : pushO o = true) (s : List UInt8) : exprPs [o] s = [(s, kindT (termO o), bytesT (termO o), 0)] := congrFun (val_leaf _ _ _ hp) s
theorem exprPs_node {x y : List Oo} {o : Oo} (hx : runD 0 x = some 1) (hy : runD 0 y = some 1) (hp : pushO o = false) (s : List UInt8) : exprPs (x ++ y ++ [o]) s = (s, 5, [40], 0) :: (exprPs x [] ++ ([32], 5, [markO o.1], 0) :: (exprPs y [32] ++ [([], 5, [41], 0)])) := congrFun (val_node _ _ _ hx hy hp) s
theorem glue_expr {l : List Oo} (h : runD 0 l = some 1) : ∀ s, glue (exprPs l s) = s ++ textX l := by
  refine whole_ind (P := fun l => ∀ s, glue (exprPs l s) = s ++ textX l) ?_ ?_ h
  · intro o hp s
    rw [exprPs_leaf hp, textX_leaf hp]; simp [glue]
  · intro x y o hx hy hp ix iy s
    rw [exprPs_node hx hy hp, textX_node hx hy hp]
    simp [glue, glue_app, ix, iy]
theorem kt_expr {l : List Oo} (h : runD 0 l = some 1) : ∀ s, (exprPs l s).map (fun p => kt p.2) = exprK l := by
  refine whole_ind (P := fun l => ∀ s, (exprPs l s).map (fun p => kt p.2) = exprK l) ?_ ?_ h
  · intro o hp s
    rw [exprPs_leaf hp, exprK_leaf hp]; rfl
  · intro x y o hx hy hp ix iy s
    rw [exprPs_node hx hy hp, exprK_node hx hy hp]
    simp only [List.map_cons, List.map_append, ix, iy, List.map_nil]
    rfl
theorem term_right {o : Oo} (h : rightO o = true) (hp : pushO o = true) : rightT (termO o) = true := by
  unfold rightO at h
  unfold termO
  by_cases h1 : o.1 = 1
  · rw [if_pos h1] at h ⊢
    rw [Bool.and_eq_true] at h
    unfold rightT
    have hne : ¬ o.2.1.size = 0 := by
      intro e
      rw [empty_of e] at h
      exact absurd h.1 (by decide)
    rw [if_neg hne]
    simp [h.1]
  · rw [if_neg h1] at h ⊢
    have h2 : o.1 = 2 := by
      simp only [pushO, decide_eq_true_eq] at hp
      rcases hp with hp | hp
      · exact absurd hp h1
      · exact hp
    rw [if_pos h2, Bool.and_eq_true] at h
    unfold rightT
    rw [if_pos (show (⟨#[]⟩ : ByteArray).size = 0 from rfl)]
    exact h.2
theorem push_term {o : Oo} (h : rightO o = true) (hp : pushO o = true) : pushT (termO o) = o := by
  obtain ⟨k, v, x⟩ := o
  unfold rightO at h
  unfold termO pushT
  simp only at h ⊢
  by_cases h1 : k = 1
  · subst h1
    rw [if_pos rfl, Bool.and_eq_true, decide_eq_true_eq] at h
    obtain ⟨hv, rfl⟩ := h
    have hne : v.size ≠ 0 := by
      intro e
      rw [empty_of e] at hv
      exact absurd hv (by decide)
    rw [if_pos rfl]
    simp only
    rw [if_pos hne]
  · have h2 : k = 2 := by
      simp only [pushO, decide_eq_true_eq] at hp
      rcases hp with hp | hp
      · exact absurd hp h1
      · exact hp
    subst h2
    rw [if_neg (by decide), if_pos rfl, Bool.and_eq_true, decide_eq_true_eq] at h
    rw [if_neg (show ¬ (2 : Int) = 1 by decide), empty_of h.1]
    rfl
theorem right_push {t : Bb} (h : rightT t = true) : rightO (pushT t) = true ∧ pushO (pushT t) = true := by
  unfold rightT at h
  unfold pushT
  by_cases h0 : t.1.size = 0
  · rw [if_pos h0] at h
    rw [if_neg (by omega)]
    refine ⟨?_, rfl⟩
    unfold rightO
    simp only
    rw [if_neg (by decide), if_pos trivial]
    simp [h, show (⟨#[]⟩ : ByteArray).size = 0 from rfl]
  · rw [if_neg h0, Bool.and_eq_true, decide_eq_true_eq] at h
    rw [if_pos h0]
    refine ⟨?_, rfl⟩
    unfold rightO
    simp only
    rw [if_pos trivial]
    simp [h.1]
end Go.Proofs.YtcjnhhbcleljmaaGreatDoor.V
namespace Go.Proofs.YtcjnhhbcleljmaaGreatDoor.V

def opK (c : Kt) : Option Int := if c = (5, [43]) then some 3 else if c = (5, [45]) then some 4 else if c = (5, [42]) then some 5 else none
abbrev Rx := Except (Option Nat) (List Oo × List Kt × Nat)
def leafX (t : Kt) (r : List Kt) (p : Nat) : Rx := match termR t with
  | none => .error (some p)
  | some v => .ok ([pushT v], r, p + 1)
def closeX (x : List Oo) (k : Int) : Rx → Rx
  | .error e => .error e
  | .ok b => match b.2.1 with
    | [] => .error (some b.2.2)
    | d :: r => if d = (5, [41]) then .ok (x ++ b.1 ++ [(k, ⟨#[]⟩, zeroV)], r, b.2.2 + 1) else .error (some b.2.2)
def nextX (f : List Kt → Nat → Rx) : Rx → Rx
  | .error e => .error e
  | .ok a => match a.2.1 with
    | [] => .error (some a.2.2)
    | c :: r => match opK c with
      | none => .error (some a.2.2)
      | some k => closeX a.1 k (f r (a.2.2 + 1))
/-- An expression, where m brackets more may open in one another; none: more do. -/
def readX : Nat → List Kt → Nat → Rx
  | 0, ts, p => (match ts with
    | [] => .error (some p)
    | t :: r => if t = (5, [40]) then .error none else leafX t r p)
  | m + 1, ts, p => (match ts with
    | [] => .error (some p)
    | t :: r => if t = (5, [40]) then nextX (readX m) (readX m r (p + 1)) else leafX t r p)
/-- Too many steps, too many brackets: where it begins. -/
def readE (ts : List Kt) (p : Nat) : Except Nat (List Oo × Nat) := match readX 15 (ts.drop p) p with
  | .ok a => if a.1.length ≤ 15 then .ok (a.1, a.2.2) else .error p
  | .error none => .error p
  | .error (some e) => .error e
theorem op_mark {o : Oo} (h : rightO o = true) (hp : pushO o = false) : o = (o.1, ⟨#[]⟩, zeroV) ∧ opK (5, [markO o.1]) = some o.1 := by
  obtain ⟨k, v, x⟩ := o
  unfold rightO at h
  simp only [pushO, decide_eq_false_iff_not, not_or] at hp
  rw [if_neg hp.1, if_neg hp.2, Bool.and_eq_true, Bool.and_eq_true, decide_eq_true_eq, decide_eq_true_eq] at h
  obtain ⟨h1, h2, h3⟩ := h
  simp only at h2 h3
  subst h3
  rw [empty_of h2]
  refine ⟨rfl, ?_⟩
  simp only [opO, decide_eq_true_eq] at h1
  rcases h1 with rfl | rfl | rfl <;> rfl
theorem opK_right {c : Kt} {k : Int} (h : opK c = some k) : rightO (k, ⟨#[]⟩, zeroV) = true ∧ pushO (k, ⟨#[]⟩, zeroV) = false := by
  unfold opK at h
  split at h
  · cases h; exact ⟨by decide, by decide⟩
  · split at h
    · cases h; exact ⟨by decide, by decide⟩
    · split at h
      · cases h; exact ⟨by decide, by decide⟩
      · cases h
theorem tok_paren (t : Bb) : tokT t ≠ (5, [40]) := fun e => kindT_ne t (Prod.mk.inj e).1
theorem readX_nil (m p : Nat) : readX m [] p = .error (some p) := by cases m <;> rfl
theorem readX_leaf {t : Kt} (h : t ≠ (5, [40])) (m : Nat) (r : List Kt) (p : Nat) : readX m (t :: r) p = leafX t r p := by
  cases m <;> simp [readX, h]
theorem readX_zero (r : List Kt) (p : Nat) : readX 0 ((5, [40]) :: r) p = .error none := by simp [readX]
theorem readX_open (m : Nat) (r : List Kt) (p : Nat) : readX (m + 1) ((5, [40]) :: r) p = nextX (readX m) (readX m r (p + 1)) := by simp [readX]
/-- What is written of an expression is read, whatever stands behind. -/
theorem readX_expr {l : List Oo} (h : runD 0 l = some 1) : (∀ o ∈ l, rightO o = true) → ∀ (m : Nat) (R : List Kt) (p : Nat), l.length ≤ 2 * m + 1 → readX m (exprK l ++ R) p = .ok (l, R, p + (exprK l).length) := by
  refine whole_ind (P := fun l => (∀ o ∈ l, rightO o = true) → ∀ (m : Nat) (R : List Kt) (p : Nat), l.length ≤ 2 * m + 1 → readX m (exprK l ++ R) p = .ok (l, R, p + (exprK l).length)) ?_ ?_ h
  · intro o hp hr m R p _
    have ho := hr o (by simp)
    rw [exprK_leaf hp]
    show readX m (tokT (termO o) :: R) p = _
    rw [readX_leaf (tok_paren _), leafX, show termR (tokT (termO o)) = some (termO o) from term_read (term_right ho hp)]
    simp only
    rw [push_term ho hp]
    rfl
  · intro x y o hx hy hp ix iy hr m R p hm
    have := runD_pos hx
    have := runD_pos hy
    simp only [List.length_append, List.length_singleton] at hm
    obtain ⟨m, rfl⟩ : ∃ n, m = n + 1 := ⟨m - 1, by omega⟩
    obtain ⟨e1, e2⟩ := op_mark (hr o (by simp)) hp
    rw [exprK_node hx hy hp]
    simp only [List.cons_append, List.append_assoc]
    rw [readX_open, ix (fun u hu => hr u (by simp [hu])) m _ (p + 1) (by omega)]
    simp only [nextX]
    rw [e2]
    simp only
    rw [iy (fun u hu => hr u (by simp [hu])) m _ _ (by omega)]
    simp only [closeX, List.nil_append]
    rw [if_pos trivial]
    simp only [List.length_cons, List.length_append, List.length_nil, List.append_assoc]
    rw [← e1]
    congr 3
    omega
/-- What is read is right, and how far it reaches. -/
theorem readX_right : ∀ (m : Nat) {ts : List Kt} {p : Nat} {a : List Oo × List Kt × Nat}, readX m ts p = .ok a →
    (runD 0 a.1 = some 1 ∧ ∀ o ∈ a.1, rightO o = true) ∧ p < a.2.2 ∧ a.2.2 + a.2.1.length = p + ts.length := by
  have hleaf : ∀ {t : Kt} {r : List Kt} {p : Nat} {a : List Oo × List Kt × Nat}, leafX t r p = .ok a →
      (runD 0 a.1 = some 1 ∧ ∀ o ∈ a.1, rightO o = true) ∧ p < a.2.2 ∧ a.2.2 + a.2.1.length = p + (t :: r).length := by
    intro t r p a h
    unfold leafX at h
    cases ht : termR t with
    | none => rw [ht] at h; cases h
    | some v =>
      rw [ht] at h
      cases h
      obtain ⟨h1, h2⟩ := right_push (termR_right ht)
      refine ⟨⟨by simp [runD, stepD, h2], fun o ho => ?_⟩, by simp, by simp; omega⟩
      rw [List.mem_singleton.1 ho]; exact h1
  intro m
  induction m with
  | zero =>
    intro ts p a h
    cases ts with
    | nil => cases h
    | cons t r =>
      by_cases ht : t = (5, [40])
      · subst ht; rw [readX_zero] at h; cases h
      · rw [readX_leaf ht] at h; exact hleaf h
  | succ m ih =>
    intro ts p a h
    cases ts with
    | nil => cases h
    | cons t r =>
      by_cases ht : t = (5, [40])
      case neg => rw [readX_leaf ht] at h; exact hleaf h
      subst ht
      rw [readX_open] at h
      cases h1 : readX m r (p + 1) with
      | error e => rw [h1] at h; cases h
      | ok b =>
        obtain ⟨⟨b1, b2⟩, b3, b4⟩ := ih h1
        obtain ⟨x, r1, q1⟩ := b
        rw [h1] at h
        simp only [nextX] at h b1 b2 b3 b4
        cases r1 with
        | nil => cases h
        | cons c r2 =>
          simp only at h
          cases hc : opK c with
          | none => rw [hc] at h; cases h
          | some k =>
            rw [hc] at h
            simp only at h
            obtain ⟨k1, k2⟩ := opK_right hc
            cases h2 : readX m r2 (q1 + 1) with
            | error e => rw [h2] at h; cases h
            | ok d =>
              obtain ⟨⟨d1, d2⟩, d3, d4⟩ := ih h2
              obtain ⟨y, r3, q3⟩ := d
              rw [h2] at h
              simp only [closeX] at h d1 d2 d3 d4
              cases r3 with
              | nil => cases h
              | cons z r4 =>
                simp only at h
                split at h
                · cases h
                  refine ⟨⟨?_, fun o ho => ?_⟩, ?_, ?_⟩
                  · simp only
                    rw [run_app, run_app, b1, Option.bind_some, run_add 1 d1, Option.bind_some]
                    simp [runD, stepD, k2]
                  · simp only [List.mem_append, List.mem_singleton] at ho
                    rcases ho with (ho | ho) | rfl
                    · exact b2 o ho
                    · exact d2 o ho
                    · exact k1
                  · simp only; omega
                  · simp only [List.length_cons] at b4 d4 ⊢; omega
                · cases h
theorem readE_right {ts : List Kt} {p : Nat} {a : List Oo × Nat} (hp : p ≤ ts.length) (h : readE ts p = .ok a) : exprB a.1 = true ∧ p < a.2 ∧ a.2 ≤ ts.length := by
  unfold readE at h
  cases hr : readX 15 (ts.drop p) p with
  | error e =>
    rw [hr] at h
    cases e <;> cases h
  | ok b =>
    rw [hr] at h
    simp only at h
    split at h
    · rename_i h15
      cases h
      obtain ⟨⟨h1, h2⟩, h3, h4⟩ := readX_right 15 hr
      rw [List.length_drop] at h4
      exact ⟨expr_iff.2 ⟨⟨runD_pos h1, h15⟩, h2, h1⟩, h3, by simp only; omega⟩
    · cases h
/-- Where it does not fit. -/
theorem readX_error : ∀ (m : Nat) {ts : List Kt} {p e : Nat}, readX m ts p = .error (some e) → p ≤ e ∧ e ≤ p + ts.length := by
  have hleaf : ∀ {t : Kt} {r : List Kt} {p e : Nat}, leafX t r p = .error (some e) → p ≤ e ∧ e ≤ p + (t :: r).length := by
    intro t r p e h
    unfold leafX at h
    cases ht : termR t with
    | none => rw [ht] at h; cases h; simp
    | some v => rw [ht] at h; cases h
  intro m
  induction m with
  | zero =>
    intro ts p e h
    cases ts with
    | nil => cases h; simp
    | cons t r =>
      by_cases ht : t = (5, [40])
      · subst ht; rw [readX_zero] at h; cases h
      · rw [readX_leaf ht] at h; exact hleaf h
  | succ m ih =>
    intro ts p e h
    cases ts with
    | nil => cases h; simp
    | cons t r =>
      by_cases ht : t = (5, [40])
      case neg => rw [readX_leaf ht] at h; exact hleaf h
      subst ht
      rw [readX_open] at h
      cases h1 : readX m r (p + 1) with
      | error e' =>
        rw [h1] at h
        cases h
        have := ih h1
        simp only [List.length_cons]; omega
      | ok b =>
        obtain ⟨_, b3, b4⟩ := readX_right m h1
        obtain ⟨x, r1, q1⟩ := b
        rw [h1] at h
        simp only [nextX] at h b3 b4
        simp only [List.length_cons]
        cases r1 with
        | nil => cases h; simp at b4; omega
        | cons c r2 =>
          simp only [List.length_cons] at h b4
          cases hc : opK c with
          | none => rw [hc] at h; cases h; omega
          | some k =>
            rw [hc] at h
            simp only at h
            cases h2 : readX m r2 (q1 + 1) with
            | error e' =>
              rw [h2] at h
              cases h
              have := ih h2
              omega
            | ok d =>
              obtain ⟨_, d3, d4⟩ := readX_right m h2
              obtain ⟨y, r3, q3⟩ := d
              rw [h2] at h
              simp only [closeX] at h d3 d4
              cases r3 with
              | nil => cases h; simp at d4; omega
              | cons z r4 =>
                simp only [List.length_cons] at h d4
                split at h
                · cases h
                · cases h; omega
theorem readE_error {ts : List Kt} {p e : Nat} (hp : p ≤ ts.length) (h : readE ts p = .error e) : p ≤ e ∧ e ≤ ts.length := by
  unfold readE at h
  cases hr : readX 15 (ts.drop p) p with
  | error e' =>
    rw [hr] at h
    cases e' with
    | none => cases h; exact ⟨Nat.le_refl _, hp⟩
    | some e' =>
      cases h
      have := readX_error 15 hr
      rw [List.length_drop] at this
      omega
  | ok b =>
    rw [hr] at h
    simp only at h
    split at h
    · cases h
    · cases h; exact ⟨Nat.le_refl _, hp⟩

theorem good_expr {l : List Oo} (h : runD 0 l = some 1) : (∀ o ∈ l, rightO o = true) → ∀ {s : List UInt8}, Sep s → ∀ p ∈ exprPs l s, Good rightK p.2 ∧ Sep p.1 := by
  refine whole_ind (P := fun l => (∀ o ∈ l, rightO o = true) → ∀ {s : List UInt8}, Sep s → ∀ p ∈ exprPs l s, Good rightK p.2 ∧ Sep p.1) ?_ ?_ h
  · intro o hp hr s hs p hm
    rw [exprPs_leaf hp] at hm
    rw [List.mem_singleton.1 hm]
    exact ⟨good_term (term_right (hr o (by simp)) hp) 0, hs⟩
  · intro x y o hx hy hp ix iy hr s hs p hm
    rw [exprPs_node hx hy hp] at hm
    simp only [List.mem_cons, List.mem_append, List.not_mem_nil, or_false] at hm
    rcases hm with rfl | hm | rfl | hm | rfl
    · exact ⟨good_mark (by decide) ⟨by decide, by decide, by decide⟩ 0, hs⟩
    · exact ix (fun u hu => hr u (by simp [hu])) sep_nil p hm
    · refine ⟨?_, sep_one⟩
      show Good rightK (5, [markO o.1], 0)
      unfold markO
      split
      · exact good_mark (by decide) ⟨by decide, by decide, by decide⟩ 0
      · split
        · exact good_mark (by decide) ⟨by decide, by decide, by decide⟩ 0
        · exact good_mark (by decide) ⟨by decide, by decide, by decide⟩ 0
    · exact iy (fun u hu => hr u (by simp [hu])) sep_one p hm
    · exact ⟨good_mark (by decide) ⟨by decide, by decide, by decide⟩ 0, sep_nil⟩
theorem safe_expr {l : List Oo} (h : runD 0 l = some 1) : ∀ (s : List UInt8) {R : List (List UInt8 × Tk)}, Stop (glue R) → SafeAll R → SafeAll (exprPs l s ++ R) := by
  refine whole_ind (P := fun l => ∀ (s : List UInt8) {R : List (List UInt8 × Tk)}, Stop (glue R) → SafeAll R → SafeAll (exprPs l s ++ R)) ?_ ?_ h
  · intro o hp s R hst hs
    rw [exprPs_leaf hp]
    exact ⟨safe_stop (kindT_ne _) hst, hs⟩
  · intro x y o hx hy hp ix iy s R hst hs
    rw [exprPs_node hx hy hp]
    simp only [List.cons_append, List.append_assoc, List.nil_append]
    refine ⟨safe_lone (by decide), ix [] (stop_cons (show stopB 32 = true by decide)) ⟨?_, iy [32] (stop_cons (show stopB 41 = true by decide)) ⟨safe_lone (by decide), hs⟩⟩⟩
    rw [glue_app, glue_expr hy]
    exact safe_blank
/-- An expression's text, whatever stands behind it that may: its signs, then those. -/
theorem lex_expr {l : List Oo} (h : exprB l = true) {R : List (List UInt8 × Tk)} (hst : Stop (glue R)) (hs : SafeAll R) (hg : ∀ p ∈ R, Good rightK p.2 ∧ Sep p.1) (q : Nat) :
    ∃ us, lexA rightK (textX l ++ glue R) q = .ok us ∧ us.map kt = exprK l ++ R.map (fun p => kt p.2) := by
  obtain ⟨_, hr, h1⟩ := expr_iff.1 h
  obtain ⟨us, u1, u2⟩ := lex_safe (R := rightK) (ps := exprPs l [] ++ R) (q := q) (fun p hp => by
    rcases List.mem_append.1 hp with hp | hp
    · exact good_expr h1 hr sep_nil p hp
    · exact hg p hp) (safe_expr h1 [] hst hs)
  rw [glue_app, glue_expr h1, List.nil_append] at u1
  rw [List.map_append, kt_expr h1] at u2
  exact ⟨us, u1, u2⟩
/-- What is written of an expression is read, whatever stands behind. -/
theorem readE_expr {l : List Oo} (h : exprB l = true) (R : List Kt) : readE (exprK l ++ R) 0 = .ok (l, (exprK l).length) := by
  obtain ⟨⟨_, h15⟩, hr, h1⟩ := expr_iff.1 h
  unfold readE
  rw [List.drop_zero, readX_expr h1 hr 15 R 0 (by omega)]
  simp only
  rw [if_pos h15, Nat.zero_add]
/-- Its text alone is read as itself. -/
theorem read_textX {l : List Oo} (h : exprB l = true) (q : Nat) : ∃ us, lexA rightK (textX l) q = .ok us ∧ us.map kt = exprK l ∧ readE (us.map kt) 0 = .ok (l, us.length) := by
  obtain ⟨us, h1, h2⟩ := lex_expr h (R := []) (Or.inl rfl) trivial (fun p hp => by cases hp) q
  rw [show glue [] = [] from rfl, List.append_nil] at h1
  rw [List.map_nil, List.append_nil] at h2
  refine ⟨us, h1, h2, ?_⟩
  have hr := readE_expr h []
  rw [List.append_nil] at hr
  rw [h2, hr, ← h2, List.length_map]
/-- Unlike expressions have unlike texts. -/
theorem textX_inj {a b : List Oo} (ha : exprB a = true) (hb : exprB b = true) (h : textX a = textX b) : a = b := by
  obtain ⟨us, h1, _, h3⟩ := read_textX ha 0
  obtain ⟨vs, k1, _, k3⟩ := read_textX hb 0
  rw [h, k1] at h1
  cases h1
  rw [k3] at h3
  cases h3
  rfl
end Go.Proofs.YtcjnhhbcleljmaaGreatDoor.V
