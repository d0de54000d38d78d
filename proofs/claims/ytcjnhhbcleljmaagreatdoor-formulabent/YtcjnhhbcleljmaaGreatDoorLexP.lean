/- The signs of a text in plain words: which sign begins a list of bytes, the signs of all of it, the place of a byte. No program in it. -/
import Derived.Test.YtcjnhhbcleljmaaGreatDoorOwnA
namespace Go.Proofs.YtcjnhhbcleljmaaGreatDoor.V

/-- A blank; a letter; one of the signs of one byte; two bytes that are a sign. -/
def blankB (c : UInt8) : Bool := c == 32 || c == 9 || c == 13 || c == 10
def letB (c : UInt8) : Bool := lowB c.toNat || upB c.toNat
def digC (c : UInt8) : Bool := digB c.toNat
def singB (c : UInt8) : Bool := [40, 41, 91, 93, 44, 46, 58, 47, 43, 42, 45, 61, 60].contains c
def twoB (c d : UInt8) : Bool := (c == 33 && d == 61) || (c == 60 && d == 61) || (c == 45 && d == 62) || (c == 61 && d == 62)
/-- Of the first byte, if there is one. -/
def headB (p : UInt8 → Bool) : List UInt8 → Bool
  | [] => false
  | c :: _ => p c
/-- How many bytes a string has behind its first quote, the last one too. -/
def strN : List UInt8 → Option Nat
  | [] => none
  | c :: r => if c = 34 then some 1 else if c = 92 then (match r with
      | [] => none
      | _ :: q => (strN q).map (· + 2)) else (strN r).map (· + 1)
/-- Which kind of sign begins the bytes, and how many they are. -/
def signL : List UInt8 → Option (Int × Nat)
  | [] => none
  | c :: r =>
    if letB c then some (if lowB c.toNat then 1 else 2, 1 + (r.takeWhile innB).length)
    else if digC c || (c == 45 && headB digC r) then some (3, 1 + (r.takeWhile digC).length)
    else if c = 34 then (strN r).map (fun n => (4, n + 1))
    else if headB (twoB c) r then some (5, 2)
    else if singB c then some (5, 1) else none

/-- A sign: kind, bytes, the place where it begins. -/
abbrev Tk := Int × List UInt8 × Nat
/-- The signs of the bytes from place q on, or the place where none begins; f: more than there are bytes. -/
def lexO (R : Int → List UInt8 → Bool) : Nat → List UInt8 → Nat → Except Nat (List Tk)
  | _, [], _ => .ok []
  | 0, _ :: _, _ => .ok []
  | f + 1, c :: r, q =>
    if blankB c then lexO R f r (q + 1)
    else if c = 37 then lexO R f ((c :: r).drop ((c :: r).takeWhile (· != 10)).length) (q + ((c :: r).takeWhile (· != 10)).length)
    else match signL (c :: r) with
      | none => .error q
      | some (k, n) => if R k ((c :: r).take n) then (match lexO R f ((c :: r).drop n) (q + n) with
          | .ok ts => .ok ((k, (c :: r).take n, q) :: ts)
          | .error e => .error e) else .error q

theorem signL_cons (c : UInt8) (r : List UInt8) : signL (c :: r) = if letB c then some (if lowB c.toNat then 1 else 2, 1 + (r.takeWhile innB).length)
    else if digC c || (c == 45 && headB digC r) then some (3, 1 + (r.takeWhile digC).length)
    else if c = 34 then (strN r).map (fun n => (4, n + 1))
    else if headB (twoB c) r then some (5, 2)
    else if singB c then some (5, 1) else none := rfl
theorem signL_pos {l : List UInt8} {k : Int} {n : Nat} (h : signL l = some (k, n)) : 1 ≤ n := by
  cases l with
  | nil => cases h
  | cons c r =>
    rw [signL_cons] at h
    by_cases h1 : letB c = true
    · rw [if_pos h1] at h
      have := (Prod.mk.inj (Option.some.inj h)).2
      omega
    rw [if_neg h1] at h
    by_cases h2 : (digC c || (c == 45 && headB digC r)) = true
    · rw [if_pos h2] at h
      have := (Prod.mk.inj (Option.some.inj h)).2
      omega
    rw [if_neg h2] at h
    by_cases h3 : c = 34
    · rw [if_pos h3] at h
      simp only [Option.map_eq_some_iff] at h
      obtain ⟨m, -, hm⟩ := h
      have := (Prod.mk.inj hm).2
      omega
    rw [if_neg h3] at h
    by_cases h4 : headB (twoB c) r = true
    · rw [if_pos h4] at h
      have := (Prod.mk.inj (Option.some.inj h)).2
      omega
    rw [if_neg h4] at h
    by_cases h5 : singB c = true
    · rw [if_pos h5] at h
      have := (Prod.mk.inj (Option.some.inj h)).2
      omega
    · rw [if_neg h5] at h
      cases h
theorem comment_pos (r : List UInt8) : 1 ≤ ((37 :: r : List UInt8).takeWhile (· != 10)).length := by
  simp
/-- Enough is enough. -/
theorem lex_fuel {R : Int → List UInt8 → Bool} : ∀ {f g : Nat} {l : List UInt8} {q : Nat}, l.length ≤ f → l.length ≤ g → lexO R f l q = lexO R g l q := by
  intro f
  induction f with
  | zero =>
    intro g l q hf hg
    have : l = [] := List.eq_nil_of_length_eq_zero (by omega)
    subst this
    cases g <;> rfl
  | succ f ih =>
    intro g l q hf hg
    match l, g with
    | [], 0 => rfl
    | [], g + 1 => rfl
    | c :: r, 0 => simp at hg
    | c :: r, g + 1 =>
      have hf' : r.length ≤ f := by simpa using hf
      have hg' : r.length ≤ g := by simpa using hg
      unfold lexO
      split
      · exact ih hf' hg'
      · split
        · rename_i hc
          subst hc
          have := comment_pos r
          exact ih (by simp; omega) (by simp; omega)
        · cases hs : signL (c :: r) with
          | none => rfl
          | some kn =>
            obtain ⟨k, n⟩ := kn
            have := signL_pos hs
            simp only []
            rw [ih (g := g) (l := (c :: r).drop n) (by simp; omega) (by simp; omega)]
/-- All the signs. -/
def lexA (R : Int → List UInt8 → Bool) (l : List UInt8) (q : Nat) : Except Nat (List Tk) := lexO R l.length l q
theorem lex_any {R : Int → List UInt8 → Bool} {f : Nat} {l : List UInt8} {q : Nat} (h : l.length ≤ f) : lexO R f l q = lexA R l q := lex_fuel h (Nat.le_refl _)
theorem lexA_nil {R : Int → List UInt8 → Bool} {q : Nat} : lexA R [] q = .ok [] := rfl
theorem lexA_blank {R : Int → List UInt8 → Bool} {c : UInt8} {r : List UInt8} {q : Nat} (h : blankB c = true) : lexA R (c :: r) q = lexA R r (q + 1) := by
  unfold lexA
  rw [List.length_cons, lexO, if_pos h]
theorem lexA_comment {R : Int → List UInt8 → Bool} {r : List UInt8} {q : Nat} : lexA R (37 :: r) q = lexA R ((37 :: r).drop ((37 :: r).takeWhile (· != 10)).length) (q + ((37 :: r).takeWhile (· != 10)).length) := by
  have := comment_pos r
  conv => lhs; unfold lexA
  rw [List.length_cons, lexO, if_neg (by decide), if_pos rfl]
  exact lex_any (by simp)
theorem lexA_none {R : Int → List UInt8 → Bool} {c : UInt8} {r : List UInt8} {q : Nat} (h : blankB c = false) (h' : c ≠ 37) (hs : signL (c :: r) = none) : lexA R (c :: r) q = .error q := by
  unfold lexA
  rw [List.length_cons, lexO, if_neg (by simp [h]), if_neg h', hs]
theorem lexA_wrong {R : Int → List UInt8 → Bool} {c : UInt8} {r : List UInt8} {q n : Nat} {k : Int} (h : blankB c = false) (h' : c ≠ 37) (hs : signL (c :: r) = some (k, n)) (hr : R k ((c :: r).take n) = false) : lexA R (c :: r) q = .error q := by
  unfold lexA
  rw [List.length_cons, lexO, if_neg (by simp [h]), if_neg h', hs]
  simp [hr]
theorem lexA_sign {R : Int → List UInt8 → Bool} {c : UInt8} {r : List UInt8} {q n : Nat} {k : Int} (h : blankB c = false) (h' : c ≠ 37) (hs : signL (c :: r) = some (k, n)) (hr : R k ((c :: r).take n) = true) :
    lexA R (c :: r) q = (match lexA R ((c :: r).drop n) (q + n) with
      | .ok ts => .ok ((k, (c :: r).take n, q) :: ts)
      | .error e => .error e) := by
  have := signL_pos hs
  conv => lhs; unfold lexA
  rw [List.length_cons, lexO, if_neg (by simp [h]), if_neg h', hs]
  simp only [hr, if_true]
  rw [lex_any (l := (c :: r).drop n) (by simp; omega)]
end Go.Proofs.YtcjnhhbcleljmaaGreatDoor.V
