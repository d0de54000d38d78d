/- Joined: RulV RulW RulX RulY RulZ. -/
import Derived.Test.YtcjnhhbcleljmaaGreatDoorRulZa
import Derived.Test.YtcjnhhbcleljmaaGreatDoorAtoH
namespace Go.Proofs.YtcjnhhbcleljmaaGreatDoor.V

/-- The place behind the bracket that closes the next one; none: too many are open. -/
def passP : Nat → List Kt → Nat → Except (Option Nat) Nat
  | _, [], p => .error (some p)
  | o, t :: r, p =>
    if t = (5, [40]) then (if 15 < o + 1 then .error none else passP (o + 1) r (p + 1))
    else if t = (5, [41]) then (if o - 1 = 0 then .ok (p + 1) else passP (o - 1) r (p + 1))
    else if o = 0 then .ok (p + 1) else passP o r (p + 1)
theorem passP_open {o p : Nat} {r : List Kt} (h : o < 15) : passP o ((5, [40]) :: r) p = passP (o + 1) r (p + 1) := by
  rw [passP, if_pos rfl, if_neg (by omega)]
theorem passP_deep {p : Nat} {r : List Kt} : passP 15 ((5, [40]) :: r) p = .error none := by
  rw [passP, if_pos rfl, if_pos (by omega)]
theorem passP_shut {o p : Nat} {r : List Kt} (h : 2 ≤ o) : passP o ((5, [41]) :: r) p = passP (o - 1) r (p + 1) := by
  rw [passP, if_neg (by decide), if_pos rfl, if_neg (by omega)]
theorem passP_last {p : Nat} {r : List Kt} : passP 1 ((5, [41]) :: r) p = .ok (p + 1) := by
  rw [passP, if_neg (by decide), if_pos rfl, if_pos (by omega)]
theorem passP_on {o p : Nat} {t : Kt} {r : List Kt} (h : 1 ≤ o) (h1 : t ≠ (5, [40])) (h2 : t ≠ (5, [41])) : passP o (t :: r) p = passP o r (p + 1) := by
  rw [passP, if_neg h1, if_neg h2, if_neg (by omega)]
theorem termR_mark {t : Kt} {v : Bb} (h : termR t = some v) : t.1 ≠ 5 := by
  intro e
  unfold termR at h
  rw [e] at h
  simp at h
theorem term_no {t : Kt} {v : Bb} {s : List UInt8} (h : termR t = some v) : t ≠ (5, s) := fun e => termR_mark h (by rw [e])
/-- Terms, up to the bracket that closes them. -/
theorem pass_terms : ∀ (m : Nat) {ts : List Kt} {p : Nat} {x : List Bb × Nat}, ts.length ≤ m → readTs ts p = .ok x → passP 1 ts p = .ok x.2 := by
  intro m
  induction m with
  | zero =>
    intro ts p x hm h
    have : ts = [] := List.eq_nil_of_length_eq_zero (by omega)
    subst this
    cases h
  | succ m ih =>
    intro ts p x hm h
    cases ts with
    | nil => cases h
    | cons t r =>
      rw [readTs_cons] at h
      cases ht : termR t with
      | none => rw [ht] at h; cases h
      | some v =>
        rw [ht] at h
        rw [passP_on (by omega) (term_no ht) (term_no ht)]
        cases r with
        | nil => cases h
        | cons c r' =>
          simp only at h
          split at h
          · rename_i hc
            cases hr : readTs r' (p + 2) with
            | error e => rw [hr] at h; cases h
            | ok y =>
              rw [hr] at h
              cases h
              rw [hc, passP_on (by omega) (by decide) (by decide)]
              show passP 1 r' (p + 2) = _
              exact ih (x := y) (by simp at hm; omega) hr
          · split at h
            · rename_i hc
              cases h
              rw [hc, passP_last]
            · cases h
/-- An expression within o open brackets. -/
theorem pass_expr : ∀ (m o : Nat) {ts : List Kt} {p : Nat}, o + m = 15 →
    (∀ {a : List Oo × List Kt × Nat}, readX m ts p = .ok a → 1 ≤ o → passP o ts p = passP o a.2.1 a.2.2) ∧
    (∀ {a : List Oo × List Kt × Nat}, readX m ts p = .ok a → o = 0 → ts.head? = some (5, [40]) → passP o ts p = .ok a.2.2) ∧
    (readX m ts p = .error none → passP o ts p = .error none) := by
  have leafN : ∀ {t : Kt} {r : List Kt} {p : Nat}, leafX t r p ≠ .error none := by
    intro t r p h
    unfold leafX at h
    split at h <;> cases h
  have leafO : ∀ {t : Kt} {r : List Kt} {p : Nat} {a : List Oo × List Kt × Nat}, leafX t r p = .ok a → (∃ v, termR t = some v) ∧ a.2 = (r, p + 1) := by
    intro t r p a h
    unfold leafX at h
    split at h
    · cases h
    · rename_i v hv
      cases h
      exact ⟨⟨v, hv⟩, rfl⟩
  intro m
  induction m with
  | zero =>
    intro o ts p ho
    obtain rfl : o = 15 := by omega
    cases ts with
    | nil => exact ⟨fun h => (by cases h), fun h => (by cases h), fun h => (by cases h)⟩
    | cons t r =>
      by_cases ht : t = (5, [40])
      · subst ht
        rw [readX_zero]
        exact ⟨fun h => (by cases h), fun h => (by cases h), fun _ => passP_deep⟩
      · rw [readX_leaf ht]
        refine ⟨fun h h1 => ?_, fun h h0 => absurd h0 (by omega), fun h => absurd h leafN⟩
        obtain ⟨⟨v, hv⟩, e⟩ := leafO h
        rw [passP_on h1 ht (term_no hv), e]
  | succ m ih =>
    intro o ts p ho
    cases ts with
    | nil => exact ⟨fun h => (by cases h), fun h => (by cases h), fun h => (by cases h)⟩
    | cons t r =>
      by_cases ht : t = (5, [40])
      case neg =>
        rw [readX_leaf ht]
        refine ⟨fun h h1 => ?_, fun _ _ hh => absurd (Option.some.inj hh) ht, fun h => absurd h leafN⟩
        obtain ⟨⟨v, hv⟩, e⟩ := leafO h
        rw [passP_on h1 ht (term_no hv), e]
      subst ht
      rw [readX_open, passP_open (by omega)]
      -- what stands behind the bracket, up to the one that closes
      have key : ∀ {a : List Oo × List Kt × Nat}, nextX (readX m) (readX m r (p + 1)) = .ok a → ∃ (d : Nat), passP (o + 1) r (p + 1) = passP (o + 1) ((5, [41]) :: a.2.1) d ∧ a.2.2 = d + 1 := by
        intro a h
        obtain ⟨i1, _, _⟩ := ih (o + 1) (ts := r) (p := p + 1) (by omega)
        cases h1 : readX m r (p + 1) with
        | error e => rw [h1] at h; cases h
        | ok b =>
          obtain ⟨x, r1, q1⟩ := b
          rw [i1 h1 (by omega)]
          rw [h1] at h
          simp only [nextX] at h ⊢
          cases r1 with
          | nil => cases h
          | cons c r2 =>
            simp only at h
            cases hc : opK c with
            | none => rw [hc] at h; cases h
            | some k =>
              rw [hc] at h
              simp only at h
              have hc1 : c ≠ (5, [40]) := fun e => by rw [e] at hc; cases hc
              have hc2 : c ≠ (5, [41]) := fun e => by rw [e] at hc; cases hc
              rw [passP_on (by omega) hc1 hc2]
              obtain ⟨j1, _, _⟩ := ih (o + 1) (ts := r2) (p := q1 + 1) (by omega)
              cases h2 : readX m r2 (q1 + 1) with
              | error e => rw [h2] at h; cases h
              | ok d =>
                obtain ⟨y, r3, q3⟩ := d
                rw [j1 h2 (by omega)]
                rw [h2] at h
                simp only [closeX] at h ⊢
                cases r3 with
                | nil => cases h
                | cons z r4 =>
                  simp only at h
                  split at h
                  · rename_i hz
                    cases h
                    rw [hz]
                    exact ⟨q3, rfl, rfl⟩
                  · cases h
      refine ⟨fun h h1 => ?_, fun h h0 _ => ?_, fun h => ?_⟩
      · obtain ⟨d, e1, e2⟩ := key h
        rw [e1, passP_shut (by omega), e2]
        rfl
      · obtain ⟨d, e1, e2⟩ := key h
        subst h0
        rw [e1, passP_last, e2]
      · obtain ⟨i1, _, i3⟩ := ih (o + 1) (ts := r) (p := p + 1) (by omega)
        cases h1 : readX m r (p + 1) with
        | error e =>
          rw [h1] at h
          simp only [nextX] at h
          rw [h] at h1
          exact i3 h1
        | ok b =>
          obtain ⟨x, r1, q1⟩ := b
          rw [i1 h1 (by omega)]
          rw [h1] at h
          simp only [nextX] at h ⊢
          cases r1 with
          | nil => cases h
          | cons c r2 =>
            simp only at h
            cases hc : opK c with
            | none => rw [hc] at h; cases h
            | some k =>
              rw [hc] at h
              simp only at h
              have hc1 : c ≠ (5, [40]) := fun e => by rw [e] at hc; cases hc
              have hc2 : c ≠ (5, [41]) := fun e => by rw [e] at hc; cases hc
              rw [passP_on (by omega) hc1 hc2]
              obtain ⟨j1, _, j3⟩ := ih (o + 1) (ts := r2) (p := q1 + 1) (by omega)
              cases h2 : readX m r2 (q1 + 1) with
              | error e =>
                rw [h2] at h
                simp only [closeX] at h
                rw [h] at h2
                exact j3 h2
              | ok d =>
                obtain ⟨y, r3, q3⟩ := d
                rw [h2] at h
                simp only [closeX] at h
                cases r3 with
                | nil => cases h
                | cons z r4 =>
                  simp only at h
                  split at h <;> cases h
theorem head_drop {ks : List Kt} {p : Nat} {t : Kt} : (ks.drop p).head? = some t ↔ ks[p]? = some t := by
  rw [List.head?_drop]
/-- Too many steps, all fit: what is passed ends where the expression does. -/
theorem many_pass {ks : List Kt} {p : Nat} {l : List Oo} {rest : List Kt} {q : Nat} (h : readX 15 (ks.drop p) p = .ok (l, rest, q)) (h15 : ¬ l.length ≤ 15) : ks[p]? = some (5, [40]) ∧ passP 0 (ks.drop p) p = .ok q := by
  have hh : ks[p]? = some (5, [40]) := by
    refine Classical.byContradiction (fun hn => ?_)
    cases ho : kT ks p with
    | none => rw [readX_at_none 15 hn ho] at h; cases h
    | some v =>
      rw [readX_at_leaf 15 hn ho] at h
      cases h
      simp at h15
  exact ⟨hh, (pass_expr 15 0 (by omega)).2.1 h rfl (head_drop.2 hh)⟩
/-- Too many brackets open. -/
theorem deep_pass {ks : List Kt} {p : Nat} (h : readX 15 (ks.drop p) p = .error none) : ks[p]? = some (5, [40]) ∧ passP 0 (ks.drop p) p = .error none := by
  refine ⟨Classical.byContradiction (fun hn => ?_), (pass_expr 15 0 (by omega)).2.2 h⟩
  cases ho : kT ks p with
  | none => rw [readX_at_none 15 hn ho] at h; cases h
  | some v => rw [readX_at_leaf 15 hn ho] at h; cases h
/-- A sign that does not fit: it stands behind a bracket that does, or is the first one. -/
theorem none_pass {ks : List Kt} {p e : Nat} (h : readX 15 (ks.drop p) p = .error (some e)) : p < e ∨ e = p ∧ ks[p]? ≠ some (5, [40]) := by
  by_cases hh : ks[p]? = some (5, [40])
  · left
    rw [readX_at_open 14 hh] at h
    cases h1 : readX 14 (ks.drop (p + 1)) (p + 1) with
    | error e' =>
      rw [h1] at h
      cases h
      have := readX_error 14 h1
      omega
    | ok b =>
      obtain ⟨_, b3, b4⟩ := readX_right 14 h1
      obtain ⟨x, r1, q1⟩ := b
      rw [h1] at h
      simp only [nextX] at h b3 b4
      cases r1 with
      | nil => cases h; omega
      | cons c r2 =>
        simp only at h
        cases hc : opK c with
        | none => rw [hc] at h; cases h; omega
        | some k =>
          rw [hc] at h
          simp only at h
          cases h2 : readX 14 r2 (q1 + 1) with
          | error e' =>
            rw [h2] at h
            cases h
            have := readX_error 14 h2
            omega
          | ok d =>
            obtain ⟨_, d3, d4⟩ := readX_right 14 h2
            obtain ⟨y, r3, q3⟩ := d
            rw [h2] at h
            simp only [closeX] at h d3 d4
            cases r3 with
            | nil => cases h; omega
            | cons z r4 =>
              simp only at h
              split at h
              · cases h
              · cases h; omega
  · right
    cases ho : kT ks p with
    | none => rw [readX_at_none 15 hh ho] at h; cases h; exact ⟨rfl, hh⟩
    | some v => rw [readX_at_leaf 15 hh ho] at h; cases h
theorem readTs_error : ∀ (m : Nat) {ts : List Kt} {p e : Nat}, ts.length ≤ m → readTs ts p = .error e → p ≤ e ∧ e ≤ p + ts.length := by
  intro m
  induction m with
  | zero =>
    intro ts p e hm h
    have : ts = [] := List.eq_nil_of_length_eq_zero (by omega)
    subst this
    unfold readTs at h
    cases h
    simp
  | succ m ih =>
    intro ts p e hm h
    cases ts with
    | nil => unfold readTs at h; cases h; simp
    | cons t r =>
      rw [readTs_cons] at h
      cases ht : termR t with
      | none => rw [ht] at h; cases h; simp
      | some v =>
        rw [ht] at h
        cases r with
        | nil => cases h; simp
        | cons c r' =>
          simp only at h
          split at h
          · cases hr : readTs r' (p + 2) with
            | error e' =>
              rw [hr] at h
              cases h
              have := ih (by simp at hm; omega) hr
              simp only [List.length_cons]
              omega
            | ok y => rw [hr] at h; cases h
          · split at h
            · cases h
            · cases h; simp
/-- Where an atom does not fit. -/
theorem readAt_error {ks : List Kt} {p e : Nat} (hp : p ≤ ks.length) (h : readAt (ks.drop p) p = .error e) : p ≤ e ∧ e ≤ ks.length := by
  cases hn : nameK ks p with
  | false => rw [readAt_none hn] at h; cases h; exact ⟨Nat.le_refl _, hp⟩
  | true =>
    unfold nameK at hn
    cases hp' : ks[p]? with
    | none => rw [hp'] at hn; cases hn
    | some t =>
      rw [hp'] at hn
      simp only [Bool.and_eq_true, decide_eq_true_eq] at hn
      by_cases hc : ks[p + 1]? = some (5, [40])
      · rw [readAt_open hp' hn.1 hn.2 hc] at h
        have hlt := (List.getElem?_eq_some_iff.1 hc).1
        cases hr : readTs (ks.drop (p + 2)) (p + 2) with
        | error e' =>
          rw [hr] at h
          cases h
          have := readTs_error _ (Nat.le_refl _) hr
          rw [List.length_drop] at this
          omega
        | ok y => rw [hr] at h; cases h
      · rw [readAt_bare hp' hn.1 hn.2 hc] at h
        cases h
/-- An atom of too many terms, all fit. -/
theorem atom_pass {ks : List Kt} {p : Nat} {x : At × Nat} (h : readAt (ks.drop p) p = .ok x) (h5 : ¬ x.1.2.length ≤ 5) : nameK ks p = true ∧ ks[p + 1]? = some (5, [40]) ∧ passP 0 (ks.drop (p + 1)) (p + 1) = .ok x.2 := by
  cases hn : nameK ks p with
  | false => rw [readAt_none hn] at h; cases h
  | true =>
    refine ⟨rfl, ?_⟩
    unfold nameK at hn
    cases hp : ks[p]? with
    | none => rw [hp] at hn; cases hn
    | some t =>
      rw [hp] at hn
      simp only [Bool.and_eq_true, decide_eq_true_eq] at hn
      by_cases hc : ks[p + 1]? = some (5, [40])
      · rw [readAt_open hp hn.1 hn.2 hc] at h
        cases hr : readTs (ks.drop (p + 2)) (p + 2) with
        | error e => rw [hr] at h; cases h
        | ok y =>
          rw [hr] at h
          cases h
          refine ⟨hc, ?_⟩
          rw [drop_at hc, passP_open (by omega)]
          exact pass_terms _ (Nat.le_refl _) hr
      · rw [readAt_bare hp hn.1 hn.2 hc] at h
        cases h
        simp at h5
/-- A sign that does not fit an atom: it stands behind a name, or is the first one, and no name. -/
theorem atom_bad {ks : List Kt} {p e : Nat} (h : readAt (ks.drop p) p = .error e) : p < e ∨ e = p ∧ nameK ks p = false := by
  cases hn : nameK ks p with
  | false => rw [readAt_none hn] at h; cases h; exact Or.inr ⟨rfl, rfl⟩
  | true =>
    left
    unfold nameK at hn
    cases hp : ks[p]? with
    | none => rw [hp] at hn; cases hn
    | some t =>
      rw [hp] at hn
      simp only [Bool.and_eq_true, decide_eq_true_eq] at hn
      by_cases hc : ks[p + 1]? = some (5, [40])
      · rw [readAt_open hp hn.1 hn.2 hc] at h
        cases hr : readTs (ks.drop (p + 2)) (p + 2) with
        | error e' =>
          rw [hr] at h
          cases h
          have := (readTs_error _ (Nat.le_refl _) hr).1
          omega
        | ok y => rw [hr] at h; cases h
      · rw [readAt_bare hp hn.1 hn.2 hc] at h
        cases h
end Go.Proofs.YtcjnhhbcleljmaaGreatDoor.V
namespace Go.Proofs.YtcjnhhbcleljmaaGreatDoor.V

theorem take_yes {β : Type} {ks : List Kt} {p : Nat} {k : Kt} (g : Unit → Rd β) (h : ks[p]? = some k) : bindR (takeR k) g (ks.drop p) p = g () (ks.drop (p + 1)) (p + 1) := by
  unfold bindR
  rw [drop_at h]
  simp only [takeR]
  rw [if_pos trivial]
theorem take_no {β : Type} {ks : List Kt} {p : Nat} {k : Kt} (g : Unit → Rd β) (h : ks[p]? ≠ some k) : bindR (takeR k) g (ks.drop p) p = .error (some p) := by
  unfold bindR
  cases hp : ks[p]? with
  | none => rw [drop_out hp]; rfl
  | some t =>
    rw [drop_at hp]
    simp only [takeR]
    rw [if_neg (fun e => h (by rw [hp, e]))]
theorem bind_no {α β : Type} {ks : List Kt} {p : Nat} {f : Rd α} {e : Option Nat} (g : α → Rd β) (h : f (ks.drop p) p = .error e) : bindR f g (ks.drop p) p = .error e := by
  unfold bindR; rw [h]
theorem bind_yes {α β : Type} {ks : List Kt} {p q : Nat} {f : Rd α} {v : α} (g : α → Rd β) (h : f (ks.drop p) p = .ok (v, ks.drop q, q)) : bindR f g (ks.drop p) p = g v (ks.drop q) q := by
  unfold bindR; rw [h]
theorem isR_at {ks : List Kt} {p : Nat} {k : Kt} : isR k (ks.drop p) = decide (ks[p]? = some k) := by
  cases hp : ks[p]? with
  | none => rw [drop_out hp]; rfl
  | some t =>
    rw [drop_at hp]
    simp [isR]
theorem isR_yes {ks : List Kt} {p : Nat} {k : Kt} (h : ks[p]? = some k) : isR k (ks.drop p) = true := by rw [isR_at]; exact decide_eq_true h
theorem isR_not {ks : List Kt} {p : Nat} {k : Kt} (h : ks[p]? ≠ some k) : ¬ isR k (ks.drop p) = true := by rw [isR_at]; simpa using h
/-- What is left is what stands behind the place. -/
def Places {α : Type} (f : Rd α) : Prop := ∀ {ks : List Kt} {p : Nat} {a : α × List Kt × Nat}, p ≤ ks.length → f (ks.drop p) p = .ok a → a.2.1 = ks.drop a.2.2 ∧ p ≤ a.2.2 ∧ a.2.2 ≤ ks.length
/-- Where it does not fit. -/
def Within {α : Type} (f : Rd α) : Prop := ∀ {ks : List Kt} {p e : Nat}, p ≤ ks.length → f (ks.drop p) p = .error (some e) → p ≤ e ∧ e ≤ ks.length
theorem places_pure {α : Type} (v : α) : Places (pureR v) := by
  intro ks p a hp h
  cases h
  exact ⟨rfl, Nat.le_refl _, hp⟩
theorem within_pure {α : Type} (v : α) : Within (pureR v) := by
  intro ks p e _ h
  cases h
theorem places_bind {α β : Type} {f : Rd α} {g : α → Rd β} (hf : Places f) (hg : ∀ v, Places (g v)) : Places (bindR f g) := by
  intro ks p a hp h
  cases hx : f (ks.drop p) p with
  | error e => rw [bind_no g hx] at h; cases h
  | ok b =>
    obtain ⟨v, r, q⟩ := b
    obtain ⟨h1, h2, h3⟩ := hf hp hx
    simp only at h1 h2 h3
    subst h1
    rw [bind_yes g hx] at h
    obtain ⟨g1, g2, g3⟩ := hg v h3 h
    exact ⟨g1, by omega, g3⟩
theorem within_bind {α β : Type} {f : Rd α} {g : α → Rd β} (hf : Places f) (hf' : Within f) (hg : ∀ v, Within (g v)) : Within (bindR f g) := by
  intro ks p e hp h
  cases hx : f (ks.drop p) p with
  | error e' => rw [bind_no g hx] at h; cases h; exact hf' hp hx
  | ok b =>
    obtain ⟨v, r, q⟩ := b
    obtain ⟨h1, h2, h3⟩ := hf hp hx
    simp only at h1 h2 h3
    subst h1
    rw [bind_yes g hx] at h
    have := hg v h3 h
    omega
theorem places_take (k : Kt) : Places (takeR k) := by
  intro ks p a hp h
  cases hq : ks[p]? with
  | none => rw [drop_out hq] at h; cases h
  | some t =>
    have := (List.getElem?_eq_some_iff.1 hq).1
    rw [drop_at hq] at h
    simp only [takeR] at h
    split at h
    · cases h; exact ⟨rfl, by simp, by simp only; omega⟩
    · cases h
theorem within_take (k : Kt) : Within (takeR k) := by
  intro ks p e hp h
  cases hq : ks[p]? with
  | none => rw [drop_out hq] at h; cases h; exact ⟨Nat.le_refl _, hp⟩
  | some t =>
    rw [drop_at hq] at h
    simp only [takeR] at h
    split at h
    · cases h
    · cases h; exact ⟨Nat.le_refl _, hp⟩
theorem nameR_yes {ks : List Kt} {p : Nat} {t : Kt} (h : ks[p]? = some t) (h1 : t.1 = 1) (h2 : nameB t.2 = true) : nameR (ks.drop p) p = .ok (t.2, ks.drop (p + 1), p + 1) := by
  rw [drop_at h]
  simp only [nameR]
  rw [if_pos ⟨h1, h2⟩]
theorem nameR_no {ks : List Kt} {p : Nat} (h : nameK ks p = false) : nameR (ks.drop p) p = .error (some p) := by
  unfold nameK at h
  cases hp : ks[p]? with
  | none => rw [drop_out hp]; rfl
  | some t =>
    rw [hp] at h
    rw [drop_at hp]
    simp only [nameR]
    rw [if_neg]
    rintro ⟨h1, h2⟩
    simp [h1, h2] at h
theorem nameK_yes {ks : List Kt} {p : Nat} (h : nameK ks p = true) : ∃ t, ks[p]? = some t ∧ t.1 = 1 ∧ nameB t.2 = true := by
  unfold nameK at h
  cases hp : ks[p]? with
  | none => rw [hp] at h; cases h
  | some t =>
    rw [hp] at h
    simp only [Bool.and_eq_true, decide_eq_true_eq] at h
    exact ⟨t, rfl, h⟩
theorem places_name : Places nameR := by
  intro ks p a hp h
  cases hn : nameK ks p with
  | false => rw [nameR_no hn] at h; cases h
  | true =>
    obtain ⟨t, h0, h1, h2⟩ := nameK_yes hn
    rw [nameR_yes h0 h1 h2] at h
    cases h
    have := (List.getElem?_eq_some_iff.1 h0).1
    exact ⟨rfl, by simp, by simp only; omega⟩
theorem within_name : Within nameR := by
  intro ks p e hp h
  cases hn : nameK ks p with
  | false => rw [nameR_no hn] at h; cases h; exact ⟨Nat.le_refl _, hp⟩
  | true =>
    obtain ⟨t, h0, h1, h2⟩ := nameK_yes hn
    rw [nameR_yes h0 h1 h2] at h
    cases h
/-- The number at a place. -/
def kN (ks : List Kt) (p : Nat) : Option Int := match ks[p]? with
  | some t => if t.1 = 3 then numGo t.2 else none
  | none => none
theorem numR_yes {ks : List Kt} {p : Nat} {n : Int} (h : kN ks p = some n) : numR (ks.drop p) p = .ok (n, ks.drop (p + 1), p + 1) := by
  unfold kN at h
  cases hp : ks[p]? with
  | none => rw [hp] at h; cases h
  | some t =>
    rw [hp] at h
    simp only at h
    split at h
    · rename_i h3
      rw [drop_at hp]
      simp only [numR]
      rw [if_pos h3, h]
    · cases h
theorem numR_no {ks : List Kt} {p : Nat} (h : kN ks p = none) : numR (ks.drop p) p = .error (some p) := by
  unfold kN at h
  cases hp : ks[p]? with
  | none => rw [drop_out hp]; rfl
  | some t =>
    rw [hp] at h
    simp only at h
    rw [drop_at hp]
    simp only [numR]
    split at h
    · rename_i h3
      rw [if_pos h3, h]
    · rename_i h3
      rw [if_neg h3]
theorem kN_lt {ks : List Kt} {p : Nat} {n : Int} (h : kN ks p = some n) : p < ks.length := by
  unfold kN at h
  cases hp : ks[p]? with
  | none => rw [hp] at h; cases h
  | some t => exact (List.getElem?_eq_some_iff.1 hp).1
theorem places_num : Places numR := by
  intro ks p a hp h
  cases hn : kN ks p with
  | none => rw [numR_no hn] at h; cases h
  | some n =>
    have := kN_lt hn
    rw [numR_yes hn] at h
    cases h
    exact ⟨rfl, by simp, by simp only; omega⟩
theorem within_num : Within numR := by
  intro ks p e hp h
  cases hn : kN ks p with
  | none => rw [numR_no hn] at h; cases h; exact ⟨Nat.le_refl _, hp⟩
  | some n => rw [numR_yes hn] at h; cases h
theorem whichR_no {ks : List Kt} {p : Nat} (h : kN ks p = none) : whichR (ks.drop p) p = .error (some p) := by
  unfold whichR; rw [numR_no h]
theorem whichR_low {ks : List Kt} {p : Nat} {n : Int} (h : kN ks p = some n) (hn : n < 0) : whichR (ks.drop p) p = .error (some p) := by
  unfold whichR; rw [numR_yes h]; simp only; rw [if_pos hn]
theorem whichR_yes {ks : List Kt} {p : Nat} {n : Int} (h : kN ks p = some n) (hn : ¬ n < 0) : whichR (ks.drop p) p = .ok (n, ks.drop (p + 1), p + 1) := by
  unfold whichR; rw [numR_yes h]; simp only; rw [if_neg hn]
theorem places_which : Places whichR := by
  intro ks p a hp h
  cases hn : kN ks p with
  | none => rw [whichR_no hn] at h; cases h
  | some n =>
    by_cases h0 : n < 0
    · rw [whichR_low hn h0] at h; cases h
    · have := kN_lt hn
      rw [whichR_yes hn h0] at h
      cases h
      exact ⟨rfl, by simp, by simp only; omega⟩
theorem within_which : Within whichR := by
  intro ks p e hp h
  cases hn : kN ks p with
  | none => rw [whichR_no hn] at h; cases h; exact ⟨Nat.le_refl _, hp⟩
  | some n =>
    by_cases h0 : n < 0
    · rw [whichR_low hn h0] at h; cases h; exact ⟨Nat.le_refl _, hp⟩
    · rw [whichR_yes hn h0] at h; cases h
/-- The sign of comparison at a place. -/
def kH (ks : List Kt) (p : Nat) : Option Int := match ks[p]? with
  | some t => howK t
  | none => none
theorem howR_yes {ks : List Kt} {p : Nat} {h : Int} (e : kH ks p = some h) : howR (ks.drop p) p = .ok (h, ks.drop (p + 1), p + 1) := by
  unfold kH at e
  cases hp : ks[p]? with
  | none => rw [hp] at e; cases e
  | some t =>
    rw [hp] at e
    simp only at e
    rw [drop_at hp]
    simp only [howR]
    rw [e]
theorem howR_no {ks : List Kt} {p : Nat} (e : kH ks p = none) : howR (ks.drop p) p = .error (some p) := by
  unfold kH at e
  cases hp : ks[p]? with
  | none => rw [drop_out hp]; rfl
  | some t =>
    rw [hp] at e
    simp only at e
    rw [drop_at hp]
    simp only [howR]
    rw [e]
theorem kH_lt {ks : List Kt} {p : Nat} {n : Int} (h : kH ks p = some n) : p < ks.length := by
  unfold kH at h
  cases hp : ks[p]? with
  | none => rw [hp] at h; cases h
  | some t => exact (List.getElem?_eq_some_iff.1 hp).1
theorem places_how : Places howR := by
  intro ks p a hp h
  cases hn : kH ks p with
  | none => rw [howR_no hn] at h; cases h
  | some n =>
    have := kH_lt hn
    rw [howR_yes hn] at h
    cases h
    exact ⟨rfl, by simp, by simp only; omega⟩
theorem within_how : Within howR := by
  intro ks p e hp h
  cases hn : kH ks p with
  | none => rw [howR_no hn] at h; cases h; exact ⟨Nat.le_refl _, hp⟩
  | some n => rw [howR_yes hn] at h; cases h
theorem atomR_yes {ks : List Kt} {p : Nat} {x : At × Nat} (h : readAt (ks.drop p) p = .ok x) : atomR (ks.drop p) p = .ok (x.1, ks.drop x.2, x.2) := by
  unfold atomR
  rw [h]
  simp only
  have := readAt_bounds h
  rw [List.drop_drop]
  congr 4
  omega
theorem atomR_no {ks : List Kt} {p e : Nat} (h : readAt (ks.drop p) p = .error e) : atomR (ks.drop p) p = .error (some e) := by
  unfold atomR; rw [h]
theorem places_atom : Places atomR := by
  intro ks p a hp h
  cases hn : readAt (ks.drop p) p with
  | error e => rw [atomR_no hn] at h; cases h
  | ok x =>
    have := readAt_bounds hn
    rw [List.length_drop] at this
    rw [atomR_yes hn] at h
    cases h
    exact ⟨rfl, by simp only; omega, by simp only; omega⟩
theorem within_atom : Within atomR := by
  intro ks p e hp h
  cases hn : readAt (ks.drop p) p with
  | error e' => rw [atomR_no hn] at h; cases h; exact readAt_error hp hn
  | ok x => rw [atomR_yes hn] at h; cases h
theorem places_expr : Places exprR := by
  intro ks p a hp h
  obtain ⟨g1, g2, g3, g4⟩ := readX_rest 15 h
  exact ⟨g1, by omega, by omega⟩
theorem within_expr : Within exprR := by
  intro ks p e hp h
  have := readX_error 15 h
  rw [List.length_drop] at this
  omega
theorem places_if {α : Type} {k : Kt} {f g : Rd α} (hf : Places f) (hg : Places g) : Places (fun ts p => if isR k ts = true then f ts p else g ts p) := by
  intro ks p a hp h
  simp only at h
  split at h
  · exact hf hp h
  · exact hg hp h
theorem within_if {α : Type} {k : Kt} {f g : Rd α} (hf : Within f) (hg : Within g) : Within (fun ts p => if isR k ts = true then f ts p else g ts p) := by
  intro ks p a hp h
  simp only at h
  split at h
  · exact hf hp h
  · exact hg hp h
/-- It goes on by at least one sign. -/
def Moves {α : Type} (f : Rd α) : Prop := ∀ {ks : List Kt} {p : Nat} {a : α × List Kt × Nat}, p ≤ ks.length → f (ks.drop p) p = .ok a → p < a.2.2
/-- The readers of many by places: how many more may come does not matter while there are as many as signs. -/
theorem many_more {α : Type} {f : Rd α} (hf : Places f) (hm : Moves f) : ∀ (n m : Nat) {ks : List Kt} {p : Nat}, p ≤ ks.length → ks.length - p ≤ n → ks.length - p ≤ m → manyR f n (ks.drop p) p = manyR f m (ks.drop p) p ∨ (ks.length ≤ p ∧ ∃ e, f (ks.drop p) p = .error e) ∨ ks.length ≤ p := by
  intro n
  induction n with
  | zero => intro m ks p hp h1 _; exact Or.inr (Or.inr (by omega))
  | succ n ih =>
    intro m ks p hp h1 h2
    cases m with
    | zero => exact Or.inr (Or.inr (by omega))
    | succ m =>
      left
      simp only [manyR]
      cases hx : f (ks.drop p) p with
      | error e => rw [bind_no _ hx, bind_no _ hx]
      | ok b =>
        obtain ⟨v, r, q⟩ := b
        obtain ⟨g1, g2, g3⟩ := hf hp hx
        have g4 := hm hp hx
        simp only at g1 g2 g3 g4
        subst g1
        rw [bind_yes _ hx, bind_yes _ hx]
        by_cases hc : ks[q]? = some (5, [44])
        · have hlt := (List.getElem?_eq_some_iff.1 hc).1
          rw [if_pos (isR_yes hc), if_pos (isR_yes hc), take_yes _ hc, take_yes _ hc]
          rcases ih m (ks := ks) (p := q + 1) (by omega) (by omega) (by omega) with h | h | h
          · unfold bindR; rw [h]
          · obtain ⟨_, e, he⟩ := h
            have out : ks.drop (q + 1) = [] := List.drop_eq_nil_of_le (by omega)
            cases n with
            | zero =>
              cases m with
              | zero => rfl
              | succ m => exact absurd g4 (by omega)
            | succ n =>
              cases m with
              | zero => exact absurd g4 (by omega)
              | succ m =>
                simp only [manyR]
                rw [bind_no _ (bind_no _ he), bind_no _ (bind_no _ he)]
          · cases n with
            | zero =>
              cases m with
              | zero => rfl
              | succ m => exact absurd g4 (by omega)
            | succ n =>
              cases m with
              | zero => exact absurd g4 (by omega)
              | succ m =>
                simp only [manyR]
                cases hy : f (ks.drop (q + 1)) (q + 1) with
                | error e => rw [bind_no _ (bind_no _ hy), bind_no _ (bind_no _ hy)]
                | ok b =>
                  have h1 := (hf (by omega) hy).2.2
                  have h2 := hm (by omega) hy
                  omega
        · rw [if_neg (isR_not hc), if_neg (isR_not hc)]
end Go.Proofs.YtcjnhhbcleljmaaGreatDoor.V
namespace Go.Proofs.YtcjnhhbcleljmaaGreatDoor.V

theorem map_same {α : Type} {f : α → α} : ∀ {l : List α}, (∀ x ∈ l, f x = x) → l.map f = l := by
  intro l
  induction l with
  | nil => intro _; rfl
  | cons a r ih => intro h; rw [List.map_cons, h a (by simp), ih (fun x hx => h x (by simp [hx]))]
def cutA (a : At) : At := if rightA a = true then a else noA
def cutX (x : List Oo) : List Oo := if exprB x = true then x else []
def cutC (c : Cp) : Cp := (c.1, cutA c.2.1, c.2.2.1, cutX c.2.2.2.1, cutX c.2.2.2.2)
def cutT (a : Ap) : Ap := (a.1, a.2.1, a.2.2.1.map cutX, a.2.2.2)
def cutR (r : Rp) : Rp := (r.1, r.2.1, r.2.2.1.map cutC, r.2.2.2.map cutT)
theorem cutA_yes {a : At} (h : rightA a = true) : cutA a = a := if_pos h
theorem cutA_no {a : At} (h : ¬ rightA a = true) : cutA a = noA := if_neg h
theorem cutX_yes {x : List Oo} (h : exprB x = true) : cutX x = x := if_pos h
theorem cutX_no {x : List Oo} (h : ¬ exprB x = true) : cutX x = [] := if_neg h
theorem noA_wrong : rightA noA = false := by decide
theorem none_wrong : exprB [] = false := by decide
theorem right_cutA (a : At) : rightA (cutA a) = rightA a := by
  by_cases h : rightA a = true
  · rw [cutA_yes h]
  · rw [cutA_no h, noA_wrong]
    exact (Bool.eq_false_iff.2 h).symm
theorem right_cutX (x : List Oo) : exprB (cutX x) = exprB x := by
  by_cases h : exprB x = true
  · rw [cutX_yes h]
  · rw [cutX_no h, none_wrong]
    exact (Bool.eq_false_iff.2 h).symm
theorem cutX_nil : cutX [] = [] := cutX_no (by rw [none_wrong]; decide)
theorem cutA_none : cutA noA = noA := cutA_no (by rw [noA_wrong]; decide)
/-- A condition as it is read: it has what its kind has. -/
def FormC (c : Cp) : Prop := (c.1 = 1 ∨ c.1 = 2) ∧ c.2.2.2.1 = [] ∧ c.2.2.2.2 = [] ∨ c.1 = 3 ∧ c.2.1 = noA
theorem right_cutC {c : Cp} (h : FormC c) : rightC' (cutC c) = rightC' c := by
  obtain ⟨k, a, w, x, y⟩ := c
  unfold cutC rightC'
  simp only
  rcases h with ⟨h1, h2, h3⟩ | ⟨h1, h2⟩
  · simp only at h1 h2 h3
    subst h2 h3
    rw [if_pos h1, if_pos h1, right_cutA, cutX_nil]
  · simp only at h1 h2
    subst h1 h2
    rw [if_neg (by omega), if_neg (by omega), right_cutX, right_cutX, cutA_none]
theorem right_cutT {n : Nat} (a : Ap) : rightAct n (cutT a) = rightAct n a := by
  obtain ⟨k, m, l, i⟩ := a
  unfold cutT rightAct
  simp only
  by_cases h1 : k = 1
  · rw [if_pos h1, if_pos h1, List.length_map, List.all_map]
    congr 3
    induction l with
    | nil => rfl
    | cons x r ih => simp only [List.all_cons, Function.comp, right_cutX] at ih ⊢; rw [ih]
  · rw [if_neg h1, if_neg h1]
    congr 2
    rw [decide_eq_decide]
    simp
theorem cutC_right {c : Cp} (h : rightC' c = true) : cutC c = c := by
  obtain ⟨k, a, w, x, y⟩ := c
  unfold rightC' at h
  unfold cutC
  simp only at h ⊢
  by_cases hk : k = 1 ∨ k = 2
  · rw [if_pos hk] at h
    simp only [Bool.and_eq_true, decide_eq_true_eq] at h
    obtain ⟨h1, h2, h3, h4⟩ := h
    subst h3 h4
    rw [cutA_yes h1, cutX_nil]
  · rw [if_neg hk] at h
    simp only [Bool.and_eq_true, decide_eq_true_eq] at h
    obtain ⟨h1, h2, h3, h4, h5⟩ := h
    subst h2
    rw [cutA_none, cutX_yes h4, cutX_yes h5]
theorem cutT_right {n : Nat} {a : Ap} (h : rightAct n a = true) : cutT a = a := by
  obtain ⟨k, m, l, i⟩ := a
  unfold rightAct at h
  unfold cutT
  simp only at h ⊢
  by_cases h1 : k = 1
  · rw [if_pos h1] at h
    simp only [Bool.and_eq_true, decide_eq_true_eq, List.all_eq_true] at h
    have e : l.map cutX = l := map_same (fun x hx => cutX_yes (h.2.2.1 x hx))
    rw [e]
  · rw [if_neg h1] at h
    simp only [Bool.and_eq_true, decide_eq_true_eq] at h
    rw [h.2.1.2]
    rfl
theorem hasN_cut (l : List Cp) : hasN (l.map cutC) = hasN l := by
  unfold hasN
  rw [List.filter_map, List.length_map]
  rfl
theorem right_cutR {r : Rp} (h : ∀ c ∈ r.2.2.1, FormC c) : rightR (cutR r) = rightR r := by
  rw [Bool.eq_iff_iff, right_iff, right_iff]
  unfold cutR
  simp only [List.length_map, List.map_map, hasN_cut]
  have e : r.2.2.1.map (Prod.fst ∘ cutC) = r.2.2.1.map Prod.fst := rfl
  rw [e]
  have hc : (∀ c ∈ r.2.2.1.map cutC, rightC' c = true) ↔ ∀ c ∈ r.2.2.1, rightC' c = true := by
    constructor
    · intro g c hc
      rw [← right_cutC (h c hc)]
      exact g _ (List.mem_map_of_mem hc)
    · intro g c hc
      obtain ⟨d, hd, rfl⟩ := List.mem_map.1 hc
      rw [right_cutC (h d hd)]
      exact g d hd
  have ha : (∀ a ∈ r.2.2.2.map cutT, rightAct (hasN r.2.2.1) a = true) ↔ ∀ a ∈ r.2.2.2, rightAct (hasN r.2.2.1) a = true := by
    constructor
    · intro g a ha
      rw [← right_cutT]
      exact g _ (List.mem_map_of_mem ha)
    · intro g a ha
      obtain ⟨d, hd, rfl⟩ := List.mem_map.1 ha
      rw [right_cutT]
      exact g d hd
  rw [hc, ha]
theorem cutR_right {r : Rp} (h : rightR r = true) : cutR r = r := by
  obtain ⟨_, _, _, _, _, h6, h7⟩ := right_iff.1 h
  obtain ⟨n, i, cs, ax⟩ := r
  unfold cutR
  simp only at h6 h7 ⊢
  have e1 : cs.map cutC = cs := map_same (fun x hx => cutC_right (h6 x hx))
  have e2 : ax.map cutT = ax := map_same (fun x hx => cutT_right (h7 x hx))
  rw [e1, e2]
end Go.Proofs.YtcjnhhbcleljmaaGreatDoor.V
namespace Go.Proofs.YtcjnhhbcleljmaaGreatDoor.V

/-- A reader of one thing: it goes on, and at the end it says so. -/
structure One {α : Type} (f : Rd α) : Prop where
  pl : Places f
  wi : Within f
  mv : Moves f
  nil : ∀ p, f [] p = .error (some p)
theorem many_fuel {α : Type} {f : Rd α} (h : One f) : ∀ (n m : Nat) {ks : List Kt} {p : Nat}, p ≤ ks.length → ks.length - p ≤ n → ks.length - p ≤ m → manyR f n (ks.drop p) p = manyR f m (ks.drop p) p := by
  have atEnd : ∀ (n : Nat) {ks : List Kt} {p : Nat}, ks.length ≤ p → manyR f n (ks.drop p) p = .error (some p) := by
    intro n ks p hp
    rw [List.drop_eq_nil_of_le hp]
    cases n with
    | zero => rfl
    | succ n => simp only [manyR, bindR, h.nil]
  intro n
  induction n with
  | zero => intro m ks p hp h1 _; rw [atEnd _ (by omega), atEnd _ (by omega)]
  | succ n ih =>
    intro m ks p hp h1 h2
    by_cases hlt : p < ks.length
    case neg => rw [atEnd _ (by omega), atEnd _ (by omega)]
    cases m with
    | zero => omega
    | succ m =>
      simp only [manyR]
      cases hx : f (ks.drop p) p with
      | error e => rw [bind_no _ hx, bind_no _ hx]
      | ok b =>
        obtain ⟨v, r, q⟩ := b
        obtain ⟨g1, g2, g3⟩ := h.pl hp hx
        have g4 := h.mv hp hx
        simp only at g1 g2 g3 g4
        subst g1
        rw [bind_yes _ hx, bind_yes _ hx]
        by_cases hc : ks[q]? = some (5, [44])
        · have hql := (List.getElem?_eq_some_iff.1 hc).1
          rw [if_pos (isR_yes hc), if_pos (isR_yes hc), take_yes _ hc, take_yes _ hc]
          have e := ih m (ks := ks) (p := q + 1) (by omega) (by omega) (by omega)
          unfold bindR; rw [e]
        · rw [if_neg (isR_not hc), if_neg (isR_not hc)]
/-- Many, up to what does not go on. -/
def allR {α : Type} (f : Rd α) : Rd (List α) := fun ts p => manyR f ts.length ts p
theorem all_no {α : Type} {f : Rd α} (h : One f) {ks : List Kt} {p : Nat} {e : Option Nat} (hx : f (ks.drop p) p = .error e) : allR f (ks.drop p) p = .error e := by
  unfold allR
  cases hn : (ks.drop p).length with
  | zero =>
    have hd : ks.drop p = [] := List.eq_nil_of_length_eq_zero hn
    rw [hd, h.nil] at hx
    cases hx
    rfl
  | succ n => simp only [manyR]; exact bind_no _ hx
theorem all_one {α : Type} {f : Rd α} (h : One f) {ks : List Kt} {p q : Nat} {v : α} (hx : f (ks.drop p) p = .ok (v, ks.drop q, q)) (hc : ks[q]? ≠ some (5, [44])) : allR f (ks.drop p) p = .ok ([v], ks.drop q, q) := by
  unfold allR
  cases hn : (ks.drop p).length with
  | zero =>
    have hd : ks.drop p = [] := List.eq_nil_of_length_eq_zero hn
    rw [hd, h.nil] at hx
    cases hx
  | succ n =>
    simp only [manyR]
    rw [bind_yes _ hx, if_neg (isR_not hc)]
/-- What was read so far ahead of what is read. -/
def addM {α : Type} (acc : List α) : Except (Option Nat) (List α × List Kt × Nat) → Except (Option Nat) (List α × List Kt × Nat)
  | .ok a => .ok (acc ++ a.1, a.2)
  | .error e => .error e
theorem addM_nil {α : Type} (r : Except (Option Nat) (List α × List Kt × Nat)) : addM [] r = r := by cases r <;> rfl
theorem all_more {α : Type} {f : Rd α} (h : One f) (acc : List α) {ks : List Kt} {p q : Nat} {v : α} (hp : p ≤ ks.length) (hx : f (ks.drop p) p = .ok (v, ks.drop q, q)) (hc : ks[q]? = some (5, [44])) : addM acc (allR f (ks.drop p) p) = addM (acc ++ [v]) (allR f (ks.drop (q + 1)) (q + 1)) := by
  have hql := (List.getElem?_eq_some_iff.1 hc).1
  have hmv := h.mv hp hx
  simp only at hmv
  unfold allR
  rw [List.length_drop, List.length_drop]
  obtain ⟨n, hn⟩ : ∃ n, ks.length - p = n + 1 := ⟨ks.length - p - 1, by omega⟩
  rw [hn]
  simp only [manyR]
  rw [bind_yes _ hx, if_pos (isR_yes hc), take_yes _ hc]
  have e := many_fuel h n (ks.length - (q + 1)) (ks := ks) (p := q + 1) (by omega) (by omega) (by omega)
  unfold bindR
  rw [e]
  cases manyR f (ks.length - (q + 1)) (ks.drop (q + 1)) (q + 1) with
  | error e => rfl
  | ok a => simp [pureR, addM]
theorem places_all {α : Type} {f : Rd α} (h : One f) : Places (allR f) := by
  have go : ∀ (k : Nat) {ks : List Kt} {p : Nat} {a : List α × List Kt × Nat}, p ≤ ks.length → ks.length - p ≤ k → allR f (ks.drop p) p = .ok a → a.2.1 = ks.drop a.2.2 ∧ p ≤ a.2.2 ∧ a.2.2 ≤ ks.length := by
    intro k
    induction k with
    | zero =>
      intro ks p a hp hk ha
      have hd : ks.drop p = [] := List.drop_eq_nil_of_le (by omega)
      rw [hd] at ha
      cases ha
    | succ k ih =>
      intro ks p a hp hk ha
      cases hx : f (ks.drop p) p with
      | error e => rw [all_no h hx] at ha; cases ha
      | ok b =>
        obtain ⟨v, r, q⟩ := b
        obtain ⟨g1, g2, g3⟩ := h.pl hp hx
        have g4 := h.mv hp hx
        simp only at g1 g2 g3 g4
        subst g1
        by_cases hc : ks[q]? = some (5, [44])
        · have hql := (List.getElem?_eq_some_iff.1 hc).1
          have e := all_more h [] hp hx hc
          rw [addM_nil, ha] at e
          cases hy : allR f (ks.drop (q + 1)) (q + 1) with
          | error e' => rw [hy] at e; cases e
          | ok b =>
            rw [hy] at e
            obtain ⟨i1, i2, i3⟩ := ih (by omega) (by omega) hy
            cases e
            exact ⟨i1, by simp only; omega, i3⟩
        · rw [all_one h hx hc] at ha
          cases ha
          exact ⟨rfl, g2, g3⟩
  intro ks p a hp ha
  exact go _ hp (Nat.le_refl _) ha
theorem within_all {α : Type} {f : Rd α} (h : One f) : Within (allR f) := by
  have go : ∀ (k : Nat) {ks : List Kt} {p e : Nat}, p ≤ ks.length → ks.length - p ≤ k → allR f (ks.drop p) p = .error (some e) → p ≤ e ∧ e ≤ ks.length := by
    intro k
    induction k with
    | zero =>
      intro ks p e hp hk ha
      have hd : ks.drop p = [] := List.drop_eq_nil_of_le (by omega)
      rw [hd] at ha
      unfold allR at ha
      simp only [List.length_nil, manyR] at ha
      cases ha
      exact ⟨Nat.le_refl _, hp⟩
    | succ k ih =>
      intro ks p e hp hk ha
      cases hx : f (ks.drop p) p with
      | error e' =>
        rw [all_no h hx] at ha
        cases ha
        exact h.wi hp hx
      | ok b =>
        obtain ⟨v, r, q⟩ := b
        obtain ⟨g1, g2, g3⟩ := h.pl hp hx
        have g4 := h.mv hp hx
        simp only at g1 g2 g3 g4
        subst g1
        by_cases hc : ks[q]? = some (5, [44])
        · have hql := (List.getElem?_eq_some_iff.1 hc).1
          have e2 := all_more h [] hp hx hc
          rw [addM_nil, ha] at e2
          cases hy : allR f (ks.drop (q + 1)) (q + 1) with
          | error e' =>
            rw [hy] at e2
            cases e2
            have := ih (by omega) (by omega) hy
            omega
          | ok b => rw [hy] at e2; cases e2
        · rw [all_one h hx hc] at ha; cases ha
  intro ks p e hp ha
  exact go _ hp (Nat.le_refl _) ha
theorem moves_all {α : Type} {f : Rd α} (h : One f) : Moves (allR f) := by
  intro ks p a hp ha
  cases hx : f (ks.drop p) p with
  | error e => rw [all_no h hx] at ha; cases ha
  | ok b =>
    obtain ⟨v, r, q⟩ := b
    obtain ⟨g1, g2, g3⟩ := h.pl hp hx
    have g4 := h.mv hp hx
    simp only at g1 g2 g3 g4
    subst g1
    by_cases hc : ks[q]? = some (5, [44])
    · have hql := (List.getElem?_eq_some_iff.1 hc).1
      have e := all_more h [] hp hx hc
      rw [addM_nil, ha] at e
      cases hy : allR f (ks.drop (q + 1)) (q + 1) with
      | error e' => rw [hy] at e; cases e
      | ok b =>
        rw [hy] at e
        have := (places_all h (by omega) hy).2.1
        cases e
        simp only; omega
    · rw [all_one h hx hc] at ha
      cases ha
      exact g4
theorem moves_bind {α β : Type} {f : Rd α} {g : α → Rd β} (hf : Places f) (hm : Moves f) (hg : ∀ v, Places (g v)) : Moves (bindR f g) := by
  intro ks p a hp h
  cases hx : f (ks.drop p) p with
  | error e => rw [bind_no g hx] at h; cases h
  | ok b =>
    obtain ⟨v, r, q⟩ := b
    obtain ⟨h1, h2, h3⟩ := hf hp hx
    have h4 := hm hp hx
    simp only at h1 h2 h3 h4
    subst h1
    rw [bind_yes g hx] at h
    have := (hg v h3 h).2.1
    omega
theorem moves_take (k : Kt) : Moves (takeR k) := by
  intro ks p a hp h
  cases hq : ks[p]? with
  | none => rw [drop_out hq] at h; cases h
  | some t =>
    rw [drop_at hq] at h
    simp only [takeR] at h
    split at h
    · cases h; simp
    · cases h
theorem moves_atom : Moves atomR := by
  intro ks p a hp h
  cases hn : readAt (ks.drop p) p with
  | error e => rw [atomR_no hn] at h; cases h
  | ok x =>
    have := readAt_bounds hn
    rw [atomR_yes hn] at h
    cases h
    exact this.1
theorem one_expr : One exprR := ⟨places_expr, within_expr, fun _ h => (readX_right 15 h).2.1, fun p => readX_nil 15 p⟩
theorem places_condR : Places condR := by
  intro ks p a hp h
  unfold condR at h
  split at h
  · exact places_bind (places_take _) (fun _ => places_bind places_atom (fun _ => places_pure _)) hp h
  · split at h
    · exact places_bind (places_take _) (fun _ => places_bind places_expr (fun _ => places_bind places_how (fun _ => places_bind places_expr (fun _ => places_bind (places_take _) (fun _ => places_pure _))))) hp h
    · exact places_bind places_atom (fun _ => places_pure _) hp h
theorem within_condR : Within condR := by
  intro ks p a hp h
  unfold condR at h
  split at h
  · exact within_bind (places_take _) (within_take _) (fun _ => within_bind places_atom within_atom (fun _ => within_pure _)) hp h
  · split at h
    · exact within_bind (places_take _) (within_take _) (fun _ => within_bind places_expr within_expr (fun _ => within_bind places_how within_how (fun _ => within_bind places_expr within_expr (fun _ => within_bind (places_take _) (within_take _) (fun _ => within_pure _))))) hp h
    · exact within_bind places_atom within_atom (fun _ => within_pure _) hp h
theorem moves_condR : Moves condR := by
  intro ks p a hp h
  unfold condR at h
  split at h
  · exact moves_bind (places_take _) (moves_take _) (fun _ => places_bind places_atom (fun _ => places_pure _)) hp h
  · split at h
    · exact moves_bind (places_take _) (moves_take _) (fun _ => places_bind places_expr (fun _ => places_bind places_how (fun _ => places_bind places_expr (fun _ => places_bind (places_take _) (fun _ => places_pure _))))) hp h
    · exact moves_bind places_atom moves_atom (fun _ => places_pure _) hp h
theorem one_cond : One condR := ⟨places_condR, within_condR, moves_condR, fun _ => rfl⟩
theorem places_args : Places argsR := by
  intro ks p a hp h
  unfold argsR at h
  split at h
  · exact places_bind (places_take _) (fun _ => places_bind (f := allR exprR) (places_all one_expr) (fun _ => places_bind (places_take _) (fun _ => places_pure _))) hp h
  · exact places_pure ([] : List (List Oo)) hp h
theorem within_args : Within argsR := by
  intro ks p a hp h
  unfold argsR at h
  split at h
  · exact within_bind (places_take _) (within_take _) (fun _ => within_bind (f := allR exprR) (places_all one_expr) (within_all one_expr) (fun _ => within_bind (places_take _) (within_take _) (fun _ => within_pure _))) hp h
  · cases h
theorem places_actR : Places actR := by
  intro ks p a hp h
  unfold actR at h
  split at h
  · exact places_bind (places_take _) (fun _ => places_bind places_which (fun _ => places_pure _)) hp h
  · exact places_bind (places_take _) (fun _ => places_bind places_name (fun _ => places_bind places_args (fun _ => places_pure _))) hp h
theorem within_actR : Within actR := by
  intro ks p a hp h
  unfold actR at h
  split at h
  · exact within_bind (places_take _) (within_take _) (fun _ => within_bind places_which within_which (fun _ => within_pure _)) hp h
  · exact within_bind (places_take _) (within_take _) (fun _ => within_bind places_name within_name (fun _ => within_bind places_args within_args (fun _ => within_pure _))) hp h
theorem moves_actR : Moves actR := by
  intro ks p a hp h
  unfold actR at h
  split at h
  · exact moves_bind (places_take _) (moves_take _) (fun _ => places_bind places_which (fun _ => places_pure _)) hp h
  · exact moves_bind (places_take _) (moves_take _) (fun _ => places_bind places_name (fun _ => places_bind places_args (fun _ => places_pure _))) hp h
theorem one_act : One actR := ⟨places_actR, within_actR, moves_actR, fun _ => rfl⟩
end Go.Proofs.YtcjnhhbcleljmaaGreatDoor.V
namespace Go.Proofs.YtcjnhhbcleljmaaGreatDoor.V

theorem bind_some {α β : Type} {f : Rd α} {g : α → Rd β} {ts : List Kt} {p : Nat} {a : β × List Kt × Nat} (h : bindR f g ts p = .ok a) : ∃ b, f ts p = .ok b ∧ g b.1 b.2.1 b.2.2 = .ok a := by
  unfold bindR at h
  cases hx : f ts p with
  | error e => rw [hx] at h; cases h
  | ok b => rw [hx] at h; exact ⟨b, rfl, h⟩
theorem pure_some {α : Type} {v : α} {ts : List Kt} {p : Nat} {a : α × List Kt × Nat} (h : pureR v ts p = .ok a) : a.1 = v := by
  cases h; rfl
theorem cond_form {ts : List Kt} {p : Nat} {a : Cp × List Kt × Nat} (h : condR ts p = .ok a) : FormC a.1 := by
  unfold condR at h
  split at h
  · obtain ⟨b, _, h⟩ := bind_some h
    obtain ⟨b2, _, h⟩ := bind_some h
    rw [pure_some h]
    exact Or.inl ⟨Or.inr rfl, rfl, rfl⟩
  · split at h
    · obtain ⟨b, _, h⟩ := bind_some h
      obtain ⟨b2, _, h⟩ := bind_some h
      obtain ⟨b3, _, h⟩ := bind_some h
      obtain ⟨b4, _, h⟩ := bind_some h
      obtain ⟨b5, _, h⟩ := bind_some h
      rw [pure_some h]
      exact Or.inr ⟨rfl, rfl⟩
    · obtain ⟨b, _, h⟩ := bind_some h
      rw [pure_some h]
      exact Or.inl ⟨Or.inl rfl, rfl, rfl⟩
theorem name_right {ts : List Kt} {p : Nat} {a : List UInt8 × List Kt × Nat} (h : nameR ts p = .ok a) : nameB a.1 = true := by
  cases ts with
  | nil => cases h
  | cons t r =>
    simp only [nameR] at h
    split at h
    · rename_i hn; cases h; exact hn.2
    · cases h
theorem act_name {ts : List Kt} {p : Nat} {a : Ap × List Kt × Nat} (h : actR ts p = .ok a) : a.1.2.1 = [] ∨ nameB a.1.2.1 = true := by
  unfold actR at h
  split at h
  · obtain ⟨b, _, h⟩ := bind_some h
    obtain ⟨b2, _, h⟩ := bind_some h
    rw [pure_some h]
    exact Or.inl rfl
  · obtain ⟨b, _, h⟩ := bind_some h
    obtain ⟨b2, h2, h⟩ := bind_some h
    obtain ⟨b3, _, h⟩ := bind_some h
    rw [pure_some h]
    exact Or.inr (name_right h2)
theorem many_each {α : Type} {f : Rd α} {P : α → Prop} (hf : ∀ {ts : List Kt} {p : Nat} {a : α × List Kt × Nat}, f ts p = .ok a → P a.1) : ∀ (n : Nat) {ts : List Kt} {p : Nat} {a : List α × List Kt × Nat}, manyR f n ts p = .ok a → ∀ v ∈ a.1, P v := by
  intro n
  induction n with
  | zero => intro ts p a h; cases h
  | succ n ih =>
    intro ts p a h
    simp only [manyR] at h
    obtain ⟨b, h1, h⟩ := bind_some h
    split at h
    · obtain ⟨b2, _, h⟩ := bind_some h
      obtain ⟨b3, h3, h⟩ := bind_some h
      have e := pure_some h
      intro v hv
      rw [e] at hv
      rcases List.mem_cons.1 hv with rfl | hv
      · exact hf h1
      · exact ih h3 v hv
    · cases h
      intro v hv
      rw [List.mem_singleton.1 hv]
      exact hf h1
/-- What is read of a rule. -/
theorem rule_form {ts : List Kt} {p : Nat} {a : Rp × List Kt × Nat} (h : ruleR ts p = .ok a) : nameB a.1.1 = true ∧ (∀ c ∈ a.1.2.2.1, FormC c) ∧ ∀ z ∈ a.1.2.2.2, z.2.1 = [] ∨ nameB z.2.1 = true := by
  unfold ruleR at h
  obtain ⟨b, _, h⟩ := bind_some h
  obtain ⟨b2, h2, h⟩ := bind_some h
  obtain ⟨b3, _, h⟩ := bind_some h
  obtain ⟨b4, _, h⟩ := bind_some h
  obtain ⟨b5, h5, h⟩ := bind_some h
  obtain ⟨b6, _, h⟩ := bind_some h
  obtain ⟨b7, h7, h⟩ := bind_some h
  obtain ⟨b8, _, h⟩ := bind_some h
  rw [pure_some h]
  exact ⟨name_right h2, many_each cond_form _ h5, many_each act_name _ h7⟩
theorem name_short {l : List UInt8} (h : nameB l = true) : l.length ≤ 24 := by
  simp only [nameB, Bool.and_eq_true] at h
  have h1 := h.1
  unfold symB at h1
  split at h1
  · cases h1
  · simp only [Bool.and_eq_true, decide_eq_true_eq] at h1
    simp only [List.length_cons]
    exact h1.1
theorem readR_ok {ks : List Kt} {p : Nat} {v : Rp} {rest : List Kt} {q : Nat} (h : ruleR (ks.drop p) p = .ok (v, rest, q)) (hr : rightR v = true) : readR ks p = .ok (v, q) := by
  unfold readR; rw [h]; simp only; rw [if_pos hr]
theorem readR_wrong {ks : List Kt} {p : Nat} {v : Rp} {rest : List Kt} {q : Nat} (h : ruleR (ks.drop p) p = .ok (v, rest, q)) (hr : ¬ rightR v = true) : readR ks p = .error p := by
  unfold readR; rw [h]; simp only; rw [if_neg hr]
theorem readR_deep {ks : List Kt} {p : Nat} (h : ruleR (ks.drop p) p = .error none) : readR ks p = .error p := by
  unfold readR; rw [h]
theorem readR_bad {ks : List Kt} {p e : Nat} (h : ruleR (ks.drop p) p = .error (some e)) : readR ks p = .error e := by
  unfold readR; rw [h]
end Go.Proofs.YtcjnhhbcleljmaaGreatDoor.V
