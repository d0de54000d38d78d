/- Expressions in plain words: which steps are one, what they come to, where a part begins. No program in it. -/
import Derived.Test.YtakhcifhfbiopaaMatP
import Derived.Test.YtakhcifhfbiopaaNumA
namespace Go.Proofs.Ytakhcifhfbiopaa.V
open N (doL)

/-- A step: kind, variable, value. -/
abbrev Oo := Int × ByteArray × Vv
/-- It pushes one; it takes two and pushes one. -/
def pushO (o : Oo) : Bool := decide (o.1 = 1 ∨ o.1 = 2)
def opO (o : Oo) : Bool := decide (o.1 = 3 ∨ o.1 = 4 ∨ o.1 = 5)
def rightO (o : Oo) : Bool :=
  if o.1 = 1 then varB o.2.1.data.toList && decide (o.2.2 = zeroV)
  else if o.1 = 2 then decide (o.2.1.size = 0) && rightVv o.2.2
  else opO o && (decide (o.2.1.size = 0) && decide (o.2.2 = zeroV))
theorem right_kind {o : Oo} (h : rightO o = true) : pushO o = true ∨ (pushO o = false ∧ opO o = true) := by
  unfold rightO at h
  unfold pushO
  split at h
  · rename_i e; left; simp [e]
  · split at h
    · rename_i e; left; simp [e]
    · rename_i e1 e2
      right
      rw [Bool.and_eq_true] at h
      exact ⟨decide_eq_false (by rintro (h | h); exact e1 h; exact e2 h), h.1⟩

/-- How many there are behind a step, where there were n; none, where it takes from fewer than two. -/
def stepD (n : Nat) (o : Oo) : Option Nat := if pushO o = true then some (n + 1) else if 2 ≤ n then some (n - 1) else none
def runD : Nat → List Oo → Option Nat
  | n, [] => some n
  | n, o :: r => (stepD n o).bind (fun m => runD m r)
theorem run_app : ∀ (l r : List Oo) (n : Nat), runD n (l ++ r) = (runD n l).bind (fun m => runD m r)
  | [], _, _ => rfl
  | o :: l, r, n => by
    simp only [List.cons_append, runD]
    cases stepD n o with
    | none => rfl
    | some m => exact run_app l r m
theorem step_add {n m : Nat} {o : Oo} (k : Nat) (h : stepD n o = some m) : stepD (n + k) o = some (m + k) := by
  unfold stepD at h ⊢
  split at h
  · rename_i hp
    rw [if_pos hp]
    simp only [Option.some.injEq] at h ⊢; omega
  · rename_i hp
    split at h
    · rw [if_neg hp, if_pos (by omega)]
      simp only [Option.some.injEq] at h ⊢; omega
    · simp at h
theorem run_add (k : Nat) : ∀ {l : List Oo} {n m : Nat}, runD n l = some m → runD (n + k) l = some (m + k)
  | [], n, m, h => by simp only [runD, Option.some.injEq] at h ⊢; omega
  | o :: l, n, m, h => by
    simp only [runD] at h ⊢
    cases hs : stepD n o with
    | none => rw [hs] at h; simp at h
    | some d =>
      rw [hs, Option.bind_some] at h
      rw [step_add k hs, Option.bind_some]
      exact run_add k h
/-- A right expression. -/
def exprB (l : List Oo) : Bool := decide (1 ≤ l.length ∧ l.length ≤ 15) && (l.all rightO && decide (runD 0 l = some 1))
theorem expr_iff {l : List Oo} : exprB l = true ↔ (1 ≤ l.length ∧ l.length ≤ 15) ∧ (∀ o ∈ l, rightO o = true) ∧ runD 0 l = some 1 := by
  simp only [exprB, Bool.and_eq_true, decide_eq_true_eq, List.all_eq_true]
/-- Two of them and what is done to both. -/
theorem expr_join {x y : List Oo} {o : Oo} (hx : exprB x = true) (hy : exprB y = true) (hl : x.length + y.length < 15) (ho : rightO o = true) (hp : pushO o = false) : exprB (x ++ y ++ [o]) = true := by
  obtain ⟨_, hx2, hx3⟩ := expr_iff.1 hx
  obtain ⟨_, hy2, hy3⟩ := expr_iff.1 hy
  refine expr_iff.2 ⟨⟨by simp; omega, by simp; omega⟩, fun u hu => ?_, ?_⟩
  · simp only [List.mem_append, List.mem_singleton] at hu
    rcases hu with (hu | hu) | rfl
    · exact hx2 u hu
    · exact hy2 u hu
    · exact ho
  · rw [run_app, run_app, hx3, Option.bind_some, run_add 1 hy3, Option.bind_some]
    simp [runD, stepD, hp]

/-- What a step does to the values, the last one ahead; or why not. -/
def stepV (b : List Bb) (s : List Vv) (o : Oo) : Except Int (List Vv) :=
  if o.1 = 1 then (match getL b o.2.1 with
    | some v => .ok (v :: s)
    | none => .error 5)
  else if o.1 = 2 then .ok (o.2.2 :: s)
  else match s with
    | y :: x :: r => if x.1 = 1 ∧ y.1 = 1 then (if (doL o.1 x.2.1 y.2.1).2 = 0 then .ok ((1, (doL o.1 x.2.1 y.2.1).1, ⟨#[]⟩) :: r) else .error (doL o.1 x.2.1 y.2.1).2) else .error 3
    | _ => .error 1
def runV (b : List Bb) : List Vv → List Oo → Except Int (List Vv)
  | s, [] => .ok s
  | s, o :: r => match stepV b s o with
    | .ok t => runV b t r
    | .error e => .error e
theorem runV_app (b : List Bb) : ∀ (l r : List Oo) (s : List Vv), runV b s (l ++ r) = (match runV b s l with
    | .ok t => runV b t r
    | .error e => .error e)
  | [], _, _ => rfl
  | o :: l, r, s => by
    simp only [List.cons_append, runV]
    cases stepV b s o with
    | error e => rfl
    | ok t => exact runV_app b l r t
/-- With more below it is the same, and that stays. -/
def below (s : List Vv) : Except Int (List Vv) → Except Int (List Vv)
  | .ok t => .ok (t ++ s)
  | .error e => .error e
theorem stepV_below {b : List Bb} {t s : List Vv} {o : Oo} {m : Nat} (h : stepD t.length o = some m) : stepV b (t ++ s) o = below s (stepV b t o) ∧ ∀ u, stepV b t o = .ok u → u.length = m := by
  unfold stepV
  unfold stepD pushO at h
  by_cases h1 : o.1 = 1
  · rw [if_pos (by simp [h1])] at h
    simp only [Option.some.injEq] at h
    simp only [h1, if_true]
    cases getL b o.2.1 with
    | none => exact ⟨rfl, fun u hu => by cases hu⟩
    | some v => exact ⟨rfl, fun u hu => by cases hu; simp; omega⟩
  · by_cases h2 : o.1 = 2
    · rw [if_pos (by simp [h2])] at h
      simp only [Option.some.injEq] at h
      simp only [h2, if_true]
      exact ⟨rfl, fun u hu => by cases hu; simp; omega⟩
    · rw [if_neg (by simp [h1, h2])] at h
      simp only [h1, h2, if_false]
      split at h
      · simp only [Option.some.injEq] at h
        match t, h with
        | y :: x :: r, h =>
          simp only [List.cons_append]
          simp only [List.length_cons] at h
          split
          · split
            · exact ⟨rfl, fun u hu => by cases hu; simp; omega⟩
            · exact ⟨rfl, fun u hu => by cases hu⟩
          · exact ⟨rfl, fun u hu => by cases hu⟩
        | [], h => rename_i hh; simp at hh
        | [_], h => rename_i hh; simp at hh
      · simp at h
theorem runV_below {b : List Bb} (s : List Vv) : ∀ {l : List Oo} {t : List Vv} {m : Nat}, runD t.length l = some m → runV b (t ++ s) l = below s (runV b t l) ∧ ∀ u, runV b t l = .ok u → u.length = m
  | [], t, m, h => by
    simp only [runD, Option.some.injEq] at h
    exact ⟨rfl, fun u hu => by cases hu; exact h⟩
  | o :: l, t, m, h => by
    simp only [runD] at h
    cases hs : stepD t.length o with
    | none => rw [hs] at h; simp at h
    | some d =>
      rw [hs, Option.bind_some] at h
      obtain ⟨h1, h2⟩ := stepV_below (b := b) (s := s) hs
      simp only [runV]
      rw [h1]
      cases hv : stepV b t o with
      | error e => exact ⟨rfl, fun u hu => by cases hu⟩
      | ok u =>
        have := h2 u hv
        subst this
        exact runV_below s h
/-- What an expression comes to: a value and 0, or a zero value and why not. -/
def evalL (b : List Bb) (l : List Oo) : Vv × Int := match runV b [] l with
  | .ok (v :: _) => (v, 0)
  | .ok [] => (zeroV, 1)
  | .error e => (zeroV, e)
/-- Of a right one: one value is left, or an error is told. -/
theorem run_one {b : List Bb} {l : List Oo} (h : exprB l = true) : (∃ v, runV b [] l = .ok [v]) ∨ ∃ e, runV b [] l = .error e := by
  have hr := (expr_iff.1 h).2.2
  have := (runV_below (b := b) [] (t := []) (l := l) hr).2
  cases hv : runV b [] l with
  | error e => exact Or.inr ⟨e, rfl⟩
  | ok u =>
    left
    have hl := this u hv
    match u, hl with
    | [v], _ => exact ⟨v, rfl⟩
/-- Errors are none of 0. -/
theorem stepV_err {b : List Bb} {s : List Vv} {o : Oo} {e : Int} (h : stepV b s o = .error e) : e ≠ 0 := by
  unfold stepV at h
  split at h
  · split at h
    · cases h
    · cases h; decide
  · split at h
    · cases h
    · split at h
      · split at h
        · split at h
          · cases h
          · rename_i hne; cases h; exact hne
        · cases h; decide
      · cases h; decide
theorem runV_err {b : List Bb} : ∀ {l : List Oo} {s : List Vv} {e : Int}, runV b s l = .error e → e ≠ 0
  | [], _, _, h => by cases h
  | o :: l, s, e, h => by
    simp only [runV] at h
    cases hs : stepV b s o with
    | error e' => rw [hs] at h; cases h; exact stepV_err hs
    | ok t => rw [hs] at h; exact runV_err h
/-- A part's value stands in its place: what two and what is done to both come to. -/
theorem eval_join {b : List Bb} {x y : List Oo} {k : Int} (hx : exprB x = true) (hy : exprB y = true) (hk : k = 3 ∨ k = 4 ∨ k = 5) :
    evalL b (x ++ y ++ [(k, ⟨#[]⟩, zeroV)]) = (if (evalL b x).2 ≠ 0 then (zeroV, (evalL b x).2) else if (evalL b y).2 ≠ 0 then (zeroV, (evalL b y).2)
      else if (evalL b x).1.1 = 1 ∧ (evalL b y).1.1 = 1 then (if (doL k (evalL b x).1.2.1 (evalL b y).1.2.1).2 = 0 then ((1, (doL k (evalL b x).1.2.1 (evalL b y).1.2.1).1, ⟨#[]⟩), 0) else (zeroV, (doL k (evalL b x).1.2.1 (evalL b y).1.2.1).2)) else (zeroV, 3)) := by
  have hy3 := (expr_iff.1 hy).2.2
  unfold evalL
  rw [runV_app, runV_app]
  rcases run_one (b := b) hx with ⟨v, hv⟩ | ⟨e, he⟩
  · rw [hv]
    have hb := (runV_below (b := b) [v] (t := []) hy3).1
    rw [List.nil_append] at hb
    simp only [hb]
    rcases run_one (b := b) hy with ⟨u, hu⟩ | ⟨e, he⟩
    · rw [hu]
      simp only [below, List.cons_append, List.nil_append, runV, stepV]
      have k1 : ¬ k = 1 := by omega
      have k2 : ¬ k = 2 := by omega
      simp only [k1, k2, if_false, ne_eq, not_true_eq_false]
      by_cases hi : v.1 = 1 ∧ u.1 = 1
      · simp only [hi, and_self, if_true]
        by_cases h0 : (doL k v.2.1 u.2.1).2 = 0 <;> simp [h0]
      · simp only [hi, if_false]
    · rw [he]
      simp [below, runV_err he]
  · rw [he]
    simp [runV_err he]
end Go.Proofs.Ytakhcifhfbiopaa.V
