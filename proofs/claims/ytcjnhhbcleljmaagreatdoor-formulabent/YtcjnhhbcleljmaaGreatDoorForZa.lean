/- Joined: ForA ForB ForC ForD ForE ForF ForG ForJ ForK ForH ForL. -/
import Derived.Test.YtcjnhhbcleljmaaGreatDoorRulZa
import Derived.Test.YtcjnhhbcleljmaaGreatDoorRulZb
namespace Go.Proofs.YtcjnhhbcleljmaaGreatDoor.V

/-- A node: kind, atom, A, B. -/
abbrev Np := Int × At × Int × Int
def oneK (k : Int) : Bool := decide (k = 2 ∨ k = 5 ∨ k = 6 ∨ k = 7)
def twoK (k : Int) : Bool := decide (k = 3 ∨ k = 4 ∨ k = 8)
theorem oneK_iff {k : Int} : oneK k = true ↔ k = 2 ∨ k = 5 ∨ k = 6 ∨ k = 7 := decide_eq_true_iff
theorem twoK_iff {k : Int} : twoK k = true ↔ k = 3 ∨ k = 4 ∨ k = 8 := decide_eq_true_iff
theorem two_not_one {k : Int} (h : twoK k = true) : oneK k = false := by
  rcases twoK_iff.1 h with rfl | rfl | rfl <;> decide
theorem one_not_two {k : Int} (h : oneK k = true) : twoK k = false := by
  rcases oneK_iff.1 h with rfl | rfl | rfl | rfl <;> decide
theorem one_ne {k : Int} (h : oneK k = true) : k ≠ 1 ∧ k ≠ 0 := by
  rcases oneK_iff.1 h with rfl | rfl | rfl | rfl <;> decide
theorem two_ne {k : Int} (h : twoK k = true) : k ≠ 1 ∧ k ≠ 0 := by
  rcases twoK_iff.1 h with rfl | rfl | rfl <;> decide
/-- Where a whole one begins, how many are in one another. -/
abbrev Tr := Nat × Nat
def stN (i : Nat) (s : List Tr) (n : Np) : Option (List Tr) :=
  if n.1 = 1 then (if rightA n.2.1 = true ∧ n.2.2.1 = 0 ∧ n.2.2.2 = 0 then some ((i, 1) :: s) else none)
  else if oneK n.1 = true then (match s with
    | [] => none
    | t :: r => if n.2.1 = noA ∧ n.2.2.1 = (i : Int) - 1 ∧ n.2.2.2 = 0 then some ((t.1, t.2 + 1) :: r) else none)
  else if twoK n.1 = true then (match s with
    | t :: u :: r => if n.2.1 = noA ∧ n.2.2.2 = (i : Int) - 1 ∧ n.2.2.1 = (t.1 : Int) - 1 then some ((u.1, max u.2 t.2 + 1) :: r) else none
    | _ => none)
  else none
def runN (i : Nat) (s : List Tr) : List Np → Option (List Tr)
  | [] => some s
  | n :: r => (stN i s n).bind (fun s' => runN (i + 1) s' r)
theorem runN_app : ∀ (l r : List Np) (i : Nat) (s : List Tr), runN i s (l ++ r) = (runN i s l).bind (fun s' => runN (i + l.length) s' r) := by
  intro l
  induction l with
  | nil => intro r i s; rfl
  | cons n l ih =>
    intro r i s
    simp only [List.cons_append, runN]
    cases stN i s n with
    | none => rfl
    | some s' =>
      simp only [Option.bind_some, ih, List.length_cons]
      rw [show i + 1 + l.length = i + (l.length + 1) by omega]
theorem runN_one (i : Nat) (s : List Tr) (n : Np) : runN i s [n] = stN i s n := by
  simp only [runN]
  cases stN i s n <;> rfl
theorem stN_is {i : Nat} {s s' : List Tr} {n : Np} (h1 : n.1 = 1) (h : stN i s n = some s') : rightA n.2.1 = true ∧ n.2.2.1 = 0 ∧ n.2.2.2 = 0 ∧ s' = (i, 1) :: s := by
  unfold stN at h
  rw [if_pos h1] at h
  split at h
  · rename_i hc
    cases h
    exact ⟨hc.1, hc.2.1, hc.2.2, rfl⟩
  · cases h
theorem stN_one {i : Nat} {s s' : List Tr} {n : Np} (h1 : oneK n.1 = true) (h : stN i s n = some s') : ∃ t r, s = t :: r ∧ n.2.1 = noA ∧ n.2.2.1 = (i : Int) - 1 ∧ n.2.2.2 = 0 ∧ s' = (t.1, t.2 + 1) :: r := by
  unfold stN at h
  rw [if_neg (one_ne h1).1, if_pos h1] at h
  cases s with
  | nil => cases h
  | cons t r =>
    simp only at h
    split at h
    · rename_i hc
      cases h
      exact ⟨t, r, rfl, hc.1, hc.2.1, hc.2.2, rfl⟩
    · cases h
theorem stN_two {i : Nat} {s s' : List Tr} {n : Np} (h1 : twoK n.1 = true) (h : stN i s n = some s') : ∃ t u r, s = t :: u :: r ∧ n.2.1 = noA ∧ n.2.2.2 = (i : Int) - 1 ∧ n.2.2.1 = (t.1 : Int) - 1 ∧ s' = (u.1, max u.2 t.2 + 1) :: r := by
  unfold stN at h
  rw [if_neg (two_ne h1).1, if_neg (by rw [two_not_one h1]; decide), if_pos h1] at h
  match s, h with
  | t :: u :: r, h =>
    simp only at h
    split at h
    · rename_i hc
      cases h
      exact ⟨t, u, r, rfl, hc.1, hc.2.1, hc.2.2, rfl⟩
    · cases h
theorem stN_kind {i : Nat} {s s' : List Tr} {n : Np} (h : stN i s n = some s') : n.1 = 1 ∨ oneK n.1 = true ∨ twoK n.1 = true := by
  by_cases h1 : n.1 = 1
  · exact Or.inl h1
  · by_cases h2 : oneK n.1 = true
    · exact Or.inr (Or.inl h2)
    · by_cases h3 : twoK n.1 = true
      · exact Or.inr (Or.inr h3)
      · unfold stN at h
        rw [if_neg h1, if_neg h2, if_neg h3] at h
        cases h
theorem stN_mk_is {i : Nat} {s : List Tr} {n : Np} (h1 : n.1 = 1) (ha : rightA n.2.1 = true) (hA : n.2.2.1 = 0) (hB : n.2.2.2 = 0) : stN i s n = some ((i, 1) :: s) := by
  unfold stN
  rw [if_pos h1, if_pos ⟨ha, hA, hB⟩]
theorem stN_mk_one {i : Nat} {t : Tr} {r : List Tr} {n : Np} (h1 : oneK n.1 = true) (ha : n.2.1 = noA) (hA : n.2.2.1 = (i : Int) - 1) (hB : n.2.2.2 = 0) : stN i (t :: r) n = some ((t.1, t.2 + 1) :: r) := by
  unfold stN
  rw [if_neg (one_ne h1).1, if_pos h1]
  simp only
  rw [if_pos ⟨ha, hA, hB⟩]
theorem stN_mk_two {i : Nat} {t u : Tr} {r : List Tr} {n : Np} (h1 : twoK n.1 = true) (ha : n.2.1 = noA) (hB : n.2.2.2 = (i : Int) - 1) (hA : n.2.2.1 = (t.1 : Int) - 1) : stN i (t :: u :: r) n = some ((u.1, max u.2 t.2 + 1) :: r) := by
  unfold stN
  rw [if_neg (two_ne h1).1, if_neg (by rw [two_not_one h1]; decide), if_pos h1]
  simp only
  rw [if_pos ⟨ha, hB, hA⟩]
/-- What lies below stays. -/
theorem stN_frame {i : Nat} {s s' : List Tr} {n : Np} (r : List Tr) (h : stN i s n = some s') : stN i (s ++ r) n = some (s' ++ r) := by
  rcases stN_kind h with h1 | h1 | h1
  · obtain ⟨a, b, c, rfl⟩ := stN_is h1 h
    exact stN_mk_is h1 a b c
  · obtain ⟨t, q, rfl, a, b, c, rfl⟩ := stN_one h1 h
    exact stN_mk_one h1 a b c
  · obtain ⟨t, u, q, rfl, a, b, c, rfl⟩ := stN_two h1 h
    exact stN_mk_two h1 a b c
theorem runN_frame : ∀ {l : List Np} {i : Nat} {s s' : List Tr} (r : List Tr), runN i s l = some s' → runN i (s ++ r) l = some (s' ++ r) := by
  intro l
  induction l with
  | nil => intro i s s' r h; cases h; rfl
  | cons n l ih =>
    intro i s s' r h
    simp only [runN] at h ⊢
    cases hs : stN i s n with
    | none => rw [hs] at h; cases h
    | some q =>
      rw [hs, Option.bind_some] at h
      rw [stN_frame r hs, Option.bind_some]
      exact ih r h
/-- A whole one from place o on, so many in one another. -/
def Tree (o : Nat) (l : List Np) (d : Nat) : Prop := runN o [] l = some [(o, d)]
def Forest (o : Nat) : List Np → List Tr → Prop
  | l, [] => l = []
  | l, t :: r => ∃ x y, l = x ++ y ∧ t.1 = o + x.length ∧ Forest o x r ∧ Tree t.1 y t.2
theorem tree_leaf {o : Nat} {n : Np} (h1 : n.1 = 1) (ha : rightA n.2.1 = true) (hA : n.2.2.1 = 0) (hB : n.2.2.2 = 0) : Tree o [n] 1 := by
  unfold Tree
  rw [runN_one]
  exact stN_mk_is h1 ha hA hB
theorem tree_one {o : Nat} {x : List Np} {d : Nat} {n : Np} (hx : Tree o x d) (h1 : oneK n.1 = true) (ha : n.2.1 = noA) (hA : n.2.2.1 = ((o + x.length : Nat) : Int) - 1) (hB : n.2.2.2 = 0) : Tree o (x ++ [n]) (d + 1) := by
  unfold Tree at hx ⊢
  rw [runN_app, hx, Option.bind_some, runN_one]
  exact stN_mk_one h1 ha hA hB
theorem tree_two {o : Nat} {x y : List Np} {dx dy : Nat} {n : Np} (hx : Tree o x dx) (hy : Tree (o + x.length) y dy) (h1 : twoK n.1 = true) (ha : n.2.1 = noA) (hA : n.2.2.1 = ((o + x.length : Nat) : Int) - 1) (hB : n.2.2.2 = ((o + x.length + y.length : Nat) : Int) - 1) : Tree o (x ++ y ++ [n]) (max dx dy + 1) := by
  unfold Tree at hx hy ⊢
  have hf := runN_frame [(o, dx)] hy
  rw [List.nil_append] at hf
  rw [runN_app, runN_app, hx, Option.bind_some, hf, Option.bind_some, runN_one, show o + (x ++ y).length = o + x.length + y.length by simp; omega]
  exact stN_mk_two (t := (o + x.length, dy)) (u := (o, dx)) (r := []) h1 ha hB hA
theorem forest_of : ∀ (k : Nat) {o : Nat} {l : List Np} {s : List Tr}, l.length ≤ k → runN o [] l = some s → Forest o l s := by
  intro k
  induction k with
  | zero =>
    intro o l s hk h
    have : l = [] := List.eq_nil_of_length_eq_zero (by omega)
    subst this
    cases h
    rfl
  | succ k ih =>
    intro o l s hk h
    by_cases hl : l = []
    · subst hl
      cases h
      rfl
    have e := (List.dropLast_concat_getLast hl).symm
    generalize l.getLast hl = n at e
    generalize l.dropLast = i at e
    subst e
    rw [runN_app] at h
    cases hi : runN o [] i with
    | none => rw [hi] at h; cases h
    | some m =>
      rw [hi, Option.bind_some, runN_one] at h
      have hf := ih (by simp at hk; omega) hi
      rcases stN_kind h with h1 | h1 | h1
      · obtain ⟨a, b, c, rfl⟩ := stN_is h1 h
        exact ⟨i, [n], rfl, rfl, hf, tree_leaf h1 a b c⟩
      · obtain ⟨t, r, rfl, a, b, c, rfl⟩ := stN_one h1 h
        obtain ⟨x, y, rfl, ht, hx, hy⟩ := hf
        refine ⟨x, y ++ [n], by simp, ht, hx, tree_one hy h1 a ?_ c⟩
        rw [b, List.length_append, ht]
        omega
      · obtain ⟨t, u, r, rfl, a, b, c, rfl⟩ := stN_two h1 h
        obtain ⟨x, y, rfl, ht, hx, hy⟩ := hf
        obtain ⟨z, v, rfl, hu, hz, hv⟩ := hx
        have htu : t.1 = u.1 + v.length := by rw [ht, hu, List.length_append]; omega
        refine ⟨z, v ++ y ++ [n], by simp, hu, hz, tree_two hv (by rw [← htu]; exact hy) h1 a ?_ ?_⟩
        · rw [c, htu]
        · rw [b, List.length_append, ← htu, ht]
          simp only [List.length_append]
          omega
theorem tree_pos {o d : Nat} {l : List Np} (h : Tree o l d) : 1 ≤ l.length := by
  cases l with
  | nil => cases h
  | cons n l => simp
/-- A whole one: an atom, a word and a whole one, two whole ones and the word between. -/
theorem split_tree {o d : Nat} {l : List Np} (h : Tree o l d) :
    (∃ n, l = [n] ∧ n.1 = 1 ∧ rightA n.2.1 = true ∧ n.2.2.1 = 0 ∧ n.2.2.2 = 0 ∧ d = 1)
    ∨ (∃ x n e, l = x ++ [n] ∧ Tree o x e ∧ oneK n.1 = true ∧ n.2.1 = noA ∧ n.2.2.1 = ((o + x.length : Nat) : Int) - 1 ∧ n.2.2.2 = 0 ∧ d = e + 1)
    ∨ (∃ x y n e f, l = x ++ y ++ [n] ∧ Tree o x e ∧ Tree (o + x.length) y f ∧ twoK n.1 = true ∧ n.2.1 = noA ∧ n.2.2.1 = ((o + x.length : Nat) : Int) - 1 ∧ n.2.2.2 = ((o + x.length + y.length : Nat) : Int) - 1 ∧ d = max e f + 1) := by
  have hl : l ≠ [] := by rintro rfl; cases h
  have e := (List.dropLast_concat_getLast hl).symm
  generalize l.getLast hl = n at e
  generalize l.dropLast = i at e
  subst e
  unfold Tree at h
  rw [runN_app] at h
  cases hi : runN o [] i with
  | none => rw [hi] at h; cases h
  | some m =>
    rw [hi, Option.bind_some, runN_one] at h
    have hf := forest_of _ (Nat.le_refl _) hi
    rcases stN_kind h with h1 | h1 | h1
    · obtain ⟨a, b, c, e⟩ := stN_is h1 h
      obtain ⟨e1, e2⟩ := List.cons.inj e
      subst e2
      have : i = [] := hf
      subst this
      exact Or.inl ⟨n, rfl, h1, a, b, c, (Prod.mk.inj e1).2⟩
    · obtain ⟨t, r, rfl, a, b, c, e⟩ := stN_one h1 h
      obtain ⟨e1, e2⟩ := List.cons.inj e
      subst e2
      obtain ⟨x, y, rfl, ht, hx, hy⟩ := hf
      have : x = [] := hx
      subst this
      obtain ⟨e3, e4⟩ := Prod.mk.inj e1
      rw [← e3] at hy
      refine Or.inr (Or.inl ⟨y, n, t.2, rfl, hy, h1, a, ?_, c, e4⟩)
      rw [b]; simp
    · obtain ⟨t, u, r, rfl, a, b, c, e⟩ := stN_two h1 h
      obtain ⟨e1, e2⟩ := List.cons.inj e
      subst e2
      obtain ⟨x, y, rfl, ht, hx, hy⟩ := hf
      obtain ⟨z, v, rfl, hu, hz, hv⟩ := hx
      have : z = [] := hz
      subst this
      obtain ⟨e3, e4⟩ := Prod.mk.inj e1
      rw [← e3] at hv
      rw [List.nil_append] at ht
      rw [ht] at hy c
      refine Or.inr (Or.inr ⟨v, y, n, u.2, t.2, by simp, hv, hy, h1, a, c, ?_, e4⟩)
      rw [b]
      simp only [List.length_append, List.nil_append]
      omega
theorem tree_ind {P : Nat → List Np → Nat → Prop}
    (leaf : ∀ o n, n.1 = 1 → rightA n.2.1 = true → n.2.2.1 = 0 → n.2.2.2 = 0 → P o [n] 1)
    (one : ∀ o x d n, Tree o x d → oneK n.1 = true → n.2.1 = noA → n.2.2.1 = ((o + x.length : Nat) : Int) - 1 → n.2.2.2 = 0 → P o x d → P o (x ++ [n]) (d + 1))
    (two : ∀ o x y e f n, Tree o x e → Tree (o + x.length) y f → twoK n.1 = true → n.2.1 = noA → n.2.2.1 = ((o + x.length : Nat) : Int) - 1 → n.2.2.2 = ((o + x.length + y.length : Nat) : Int) - 1 → P o x e → P (o + x.length) y f → P o (x ++ y ++ [n]) (max e f + 1)) :
    ∀ {o : Nat} {l : List Np} {d : Nat}, Tree o l d → P o l d := by
  have key : ∀ (k : Nat) {o : Nat} {l : List Np} {d : Nat}, l.length ≤ k → Tree o l d → P o l d := by
    intro k
    induction k with
    | zero => intro o l d hk h; have := tree_pos h; omega
    | succ k ih =>
      intro o l d hk h
      rcases split_tree h with ⟨n, rfl, h1, a, b, c, rfl⟩ | ⟨x, n, e, rfl, hx, h1, a, b, c, rfl⟩ | ⟨x, y, n, e, f, rfl, hx, hy, h1, a, b, c, rfl⟩
      · exact leaf o n h1 a b c
      · simp at hk
        exact one o x e n hx h1 a b c (ih (by omega) hx)
      · have := tree_pos hx
        have := tree_pos hy
        simp at hk
        exact two o x y e f n hx hy h1 a b c (ih (by omega) hx) (ih (by omega) hy)
  intro o l d h
  exact key _ (Nat.le_refl _) h
/-- A right formula. -/
def rightFm (l : List Np) : Bool := decide (1 ≤ l.length ∧ l.length ≤ 40) && (match runN 0 [] l with
  | some [t] => decide (t.1 = 0 ∧ t.2 ≤ 12)
  | _ => false)
theorem rightFm_iff {l : List Np} : rightFm l = true ↔ (1 ≤ l.length ∧ l.length ≤ 40) ∧ ∃ d, d ≤ 12 ∧ Tree 0 l d := by
  unfold rightFm Tree
  rw [Bool.and_eq_true, decide_eq_true_eq]
  refine and_congr_right (fun _ => ?_)
  cases h : runN 0 [] l with
  | none => simp
  | some s =>
    match s with
    | [] => simp
    | [t] =>
      simp only [decide_eq_true_eq]
      constructor
      · rintro ⟨h1, h2⟩
        exact ⟨t.2, h2, by rw [← h1]⟩
      · rintro ⟨d, h1, h2⟩
        have := (List.cons.inj (Option.some.inj h2)).1
        rw [this]
        exact ⟨rfl, h1⟩
    | _ :: _ :: _ => simp
end Go.Proofs.YtcjnhhbcleljmaaGreatDoor.V
namespace Go.Proofs.YtcjnhhbcleljmaaGreatDoor.V

section
variable {α : Type} (leaf : At → α) (one : Int → α → α) (two : Int → α → α → α) (z : α)
/-- A node's value by those of the nodes ahead of it. -/
def valNd (acc : List α) (n : Np) : α := if n.1 = 1 then leaf n.2.1 else if twoK n.1 = true then two n.1 (acc.getD n.2.2.1.toNat z) (acc.getD n.2.2.2.toNat z) else one n.1 (acc.getD n.2.2.1.toNat z)
def accN (acc : List α) : List Np → List α
  | [] => acc
  | n :: r => accN (acc ++ [valNd leaf one two z acc n]) r
theorem accN_app : ∀ (l r : List Np) (acc : List α), accN leaf one two z acc (l ++ r) = accN leaf one two z (accN leaf one two z acc l) r := by
  intro l
  induction l with
  | nil => intro r acc; rfl
  | cons n l ih => intro r acc; simp only [List.cons_append, accN, ih]
theorem accN_len : ∀ (l : List Np) (acc : List α), (accN leaf one two z acc l).length = acc.length + l.length := by
  intro l
  induction l with
  | nil => intro acc; rfl
  | cons n l ih => intro acc; simp only [accN, ih, List.length_append, List.length_cons, List.length_nil]; omega
def valT (o : Nat) (l : List Np) : α := (accN leaf one two z (List.replicate o z) l).getLastD z
theorem accN_tree {o d : Nat} {l : List Np} (h : Tree o l d) : ∃ v, ∀ acc : List α, acc.length = o → ∃ mid, accN leaf one two z acc l = acc ++ (mid ++ [v]) := by
  refine tree_ind (P := fun o l _ => ∃ v, ∀ acc : List α, acc.length = o → ∃ mid, accN leaf one two z acc l = acc ++ (mid ++ [v])) ?_ ?_ ?_ h
  · intro o n h1 a b c
    refine ⟨leaf n.2.1, fun acc _ => ⟨[], ?_⟩⟩
    simp [accN, valNd, h1]
  · rintro o x d n hx h1 a b c ⟨v, hv⟩
    refine ⟨one n.1 v, fun acc hacc => ?_⟩
    obtain ⟨mid, hm⟩ := hv acc hacc
    have hl := accN_len leaf one two z x acc
    refine ⟨mid ++ [v], ?_⟩
    rw [accN_app, hm]
    rw [hm] at hl
    have hA : n.2.2.1.toNat = (acc ++ mid).length := by
      simp only [List.length_append, List.length_singleton] at hl ⊢
      rw [b]; omega
    simp only [accN, valNd]
    rw [if_neg (one_ne h1).1, if_neg (by rw [one_not_two h1]; decide), hA]
    have : (acc ++ (mid ++ [v])).getD (acc ++ mid).length z = v := by
      rw [← List.append_assoc, List.getD_eq_getElem?_getD, List.getElem?_append_right (Nat.le_refl _)]
      simp
    rw [this]
    simp
  · rintro o x y e f n hx hy h1 a b c ⟨v, hv⟩ ⟨u, hu⟩
    refine ⟨two n.1 v u, fun acc hacc => ?_⟩
    obtain ⟨mid, hm⟩ := hv acc hacc
    have hl := accN_len leaf one two z x acc
    rw [hm] at hl
    have hl2 : (acc ++ (mid ++ [v])).length = o + x.length := by rw [hl, hacc]
    obtain ⟨mid2, hm2⟩ := hu (acc ++ (mid ++ [v])) hl2
    have hl3 := accN_len leaf one two z y (acc ++ (mid ++ [v]))
    rw [hm2] at hl3
    refine ⟨mid ++ [v] ++ mid2 ++ [u], ?_⟩
    rw [accN_app, accN_app, hm, hm2]
    have hA : n.2.2.1.toNat = (acc ++ mid).length := by
      simp only [List.length_append, List.length_singleton] at hl ⊢
      rw [b]; omega
    have hB : n.2.2.2.toNat = (acc ++ (mid ++ [v]) ++ mid2).length := by
      simp only [List.length_append, List.length_singleton] at hl hl2 hl3 ⊢
      rw [c]; omega
    simp only [accN, valNd]
    rw [if_neg (two_ne h1).1, if_pos h1, hA, hB]
    have e1 : (acc ++ (mid ++ [v]) ++ (mid2 ++ [u])).getD (acc ++ mid).length z = v := by
      rw [show acc ++ (mid ++ [v]) ++ (mid2 ++ [u]) = (acc ++ mid) ++ (v :: (mid2 ++ [u])) by simp, List.getD_eq_getElem?_getD, List.getElem?_append_right (Nat.le_refl _)]
      simp
    have e2 : (acc ++ (mid ++ [v]) ++ (mid2 ++ [u])).getD (acc ++ (mid ++ [v]) ++ mid2).length z = u := by
      rw [← List.append_assoc, List.getD_eq_getElem?_getD, List.getElem?_append_right (Nat.le_refl _)]
      simp
    rw [e1, e2]
    simp
/-- Behind a whole one its value is the last one. -/
theorem accN_val {o d : Nat} {l : List Np} (h : Tree o l d) {acc : List α} (hacc : acc.length = o) : ∃ mid, accN leaf one two z acc l = acc ++ (mid ++ [valT leaf one two z o l]) := by
  obtain ⟨v, hv⟩ := accN_tree leaf one two z h
  obtain ⟨m0, h0⟩ := hv (List.replicate o z) (by simp)
  have e : valT leaf one two z o l = v := by
    unfold valT
    rw [h0, ← List.append_assoc, List.getLastD_concat]
  rw [e]
  exact hv acc hacc
theorem valT_leaf {o : Nat} {n : Np} (h1 : n.1 = 1) : valT leaf one two z o [n] = leaf n.2.1 := by
  unfold valT
  simp only [accN, valNd]
  rw [if_pos h1, List.getLastD_concat]
theorem valT_one {o d : Nat} {x : List Np} {n : Np} (hx : Tree o x d) (h1 : oneK n.1 = true) (hA : n.2.2.1 = ((o + x.length : Nat) : Int) - 1) : valT leaf one two z o (x ++ [n]) = one n.1 (valT leaf one two z o x) := by
  obtain ⟨mid, hm⟩ := accN_val leaf one two z hx (acc := List.replicate o z) (by simp)
  have hl := accN_len leaf one two z x (List.replicate o z)
  rw [hm] at hl
  conv => lhs; unfold valT
  rw [accN_app, hm]
  have hA' : n.2.2.1.toNat = (List.replicate o z ++ mid).length := by
    simp only [List.length_append, List.length_singleton, List.length_replicate] at hl ⊢
    rw [hA]; omega
  simp only [accN, valNd]
  rw [if_neg (one_ne h1).1, if_neg (by rw [one_not_two h1]; decide), hA', List.getLastD_concat]
  have : (List.replicate o z ++ (mid ++ [valT leaf one two z o x])).getD (List.replicate o z ++ mid).length z = valT leaf one two z o x := by
    rw [← List.append_assoc, List.getD_eq_getElem?_getD, List.getElem?_append_right (Nat.le_refl _)]
    simp
  rw [this]
theorem valT_two {o e f : Nat} {x y : List Np} {n : Np} (hx : Tree o x e) (hy : Tree (o + x.length) y f) (h1 : twoK n.1 = true) (hA : n.2.2.1 = ((o + x.length : Nat) : Int) - 1) (hB : n.2.2.2 = ((o + x.length + y.length : Nat) : Int) - 1) : valT leaf one two z o (x ++ y ++ [n]) = two n.1 (valT leaf one two z o x) (valT leaf one two z (o + x.length) y) := by
  obtain ⟨mid, hm⟩ := accN_val leaf one two z hx (acc := List.replicate o z) (by simp)
  have hl := accN_len leaf one two z x (List.replicate o z)
  rw [hm] at hl
  have hl2 : (List.replicate o z ++ (mid ++ [valT leaf one two z o x])).length = o + x.length := by rw [hl]; simp
  obtain ⟨mid2, hm2⟩ := accN_val leaf one two z hy hl2
  have hl3 := accN_len leaf one two z y (List.replicate o z ++ (mid ++ [valT leaf one two z o x]))
  rw [hm2] at hl3
  conv => lhs; unfold valT
  rw [accN_app, accN_app, hm, hm2]
  generalize valT leaf one two z o x = v at *
  generalize valT leaf one two z (o + x.length) y = u at *
  have hA' : n.2.2.1.toNat = (List.replicate o z ++ mid).length := by
    simp only [List.length_append, List.length_singleton, List.length_replicate] at hl ⊢
    rw [hA]; omega
  have hB' : n.2.2.2.toNat = (List.replicate o z ++ (mid ++ [v]) ++ mid2).length := by
    simp only [List.length_append, List.length_singleton, List.length_replicate] at hl hl2 hl3 ⊢
    rw [hB]; omega
  simp only [accN, valNd]
  rw [if_neg (two_ne h1).1, if_pos h1, hA', hB', List.getLastD_concat]
  have e1 : (List.replicate o z ++ (mid ++ [v]) ++ (mid2 ++ [u])).getD (List.replicate o z ++ mid).length z = v := by
    rw [show List.replicate o z ++ (mid ++ [v]) ++ (mid2 ++ [u]) = (List.replicate o z ++ mid) ++ (v :: (mid2 ++ [u])) by simp, List.getD_eq_getElem?_getD, List.getElem?_append_right (Nat.le_refl _)]
    simp
  have e2 : (List.replicate o z ++ (mid ++ [v]) ++ (mid2 ++ [u])).getD (List.replicate o z ++ (mid ++ [v]) ++ mid2).length z = u := by
    rw [← List.append_assoc, List.getD_eq_getElem?_getD, List.getElem?_append_right (Nat.le_refl _)]
    simp
  rw [e1, e2]
end

/-- A kind's word. -/
def wordN (k : Int) : List UInt8 := if k = 2 then [110, 111, 116] else if k = 3 then [97, 110, 100] else if k = 4 then [111, 114] else if k = 5 then [98, 101, 102, 111, 114, 101] else if k = 6 then [111, 110, 99, 101] else if k = 7 then [97, 108, 119, 97, 121, 115] else [115, 105, 110, 99, 101]
theorem word_sym {k : Int} (h : oneK k = true ∨ twoK k = true) : symB (wordN k) = true := by
  rcases h with h | h
  · rcases oneK_iff.1 h with rfl | rfl | rfl | rfl <;> decide
  · rcases twoK_iff.1 h with rfl | rfl | rfl <;> decide
theorem word_no {k : Int} (h : oneK k = true ∨ twoK k = true) : nameB (wordN k) = false := by
  rcases h with h | h
  · rcases oneK_iff.1 h with rfl | rfl | rfl | rfl <;> decide
  · rcases twoK_iff.1 h with rfl | rfl | rfl <;> decide
def textN : Nat → List Np → List UInt8 := valT textA (fun k x => wordN k ++ 32 :: x) (fun k x y => 40 :: (x ++ 32 :: (wordN k ++ 32 :: (y ++ [41])))) []
def formK : Nat → List Np → List Kt := valT atomK (fun k x => (1, wordN k) :: x) (fun k x y => (5, [40]) :: (x ++ (1, wordN k) :: (y ++ [(5, [41])]))) []
def formPs (o : Nat) (l : List Np) : List UInt8 → List (List UInt8 × Tk) := valT (fun a s => atomPs s a) (fun k x s => (s, 1, wordN k, 0) :: x [32]) (fun k x y s => (s, 5, [40], 0) :: (x [] ++ ([32], 1, wordN k, 0) :: (y [32] ++ [([], 5, [41], 0)]))) (fun _ => []) o l
section
variable {o d e f : Nat} {x y : List Np} {n : Np}
theorem textN_leaf (h1 : n.1 = 1) : textN o [n] = textA n.2.1 := valT_leaf _ _ _ _ h1
theorem textN_one (hx : Tree o x d) (h1 : oneK n.1 = true) (hA : n.2.2.1 = ((o + x.length : Nat) : Int) - 1) : textN o (x ++ [n]) = wordN n.1 ++ 32 :: textN o x := valT_one _ _ _ _ hx h1 hA
theorem textN_two (hx : Tree o x e) (hy : Tree (o + x.length) y f) (h1 : twoK n.1 = true) (hA : n.2.2.1 = ((o + x.length : Nat) : Int) - 1) (hB : n.2.2.2 = ((o + x.length + y.length : Nat) : Int) - 1) : textN o (x ++ y ++ [n]) = 40 :: (textN o x ++ 32 :: (wordN n.1 ++ 32 :: (textN (o + x.length) y ++ [41]))) := valT_two _ _ _ _ hx hy h1 hA hB
theorem formK_leaf (h1 : n.1 = 1) : formK o [n] = atomK n.2.1 := valT_leaf _ _ _ _ h1
theorem formK_one (hx : Tree o x d) (h1 : oneK n.1 = true) (hA : n.2.2.1 = ((o + x.length : Nat) : Int) - 1) : formK o (x ++ [n]) = (1, wordN n.1) :: formK o x := valT_one _ _ _ _ hx h1 hA
theorem formK_two (hx : Tree o x e) (hy : Tree (o + x.length) y f) (h1 : twoK n.1 = true) (hA : n.2.2.1 = ((o + x.length : Nat) : Int) - 1) (hB : n.2.2.2 = ((o + x.length + y.length : Nat) : Int) - 1) : formK o (x ++ y ++ [n]) = (5, [40]) :: (formK o x ++ (1, wordN n.1) :: (formK (o + x.length) y ++ [(5, [41])])) := valT_two _ _ _ _ hx hy h1 hA hB
theorem formPs_leaf (h1 : n.1 = 1) (s : List UInt8) : formPs o [n] s = atomPs s n.2.1 := congrFun (valT_leaf _ _ _ _ h1) s
theorem formPs_one (hx : Tree o x d) (h1 : oneK n.1 = true) (hA : n.2.2.1 = ((o + x.length : Nat) : Int) - 1) (s : List UInt8) : formPs o (x ++ [n]) s = (s, 1, wordN n.1, 0) :: formPs o x [32] := congrFun (valT_one _ _ _ _ hx h1 hA) s
theorem formPs_two (hx : Tree o x e) (hy : Tree (o + x.length) y f) (h1 : twoK n.1 = true) (hA : n.2.2.1 = ((o + x.length : Nat) : Int) - 1) (hB : n.2.2.2 = ((o + x.length + y.length : Nat) : Int) - 1) (s : List UInt8) : formPs o (x ++ y ++ [n]) s = (s, 5, [40], 0) :: (formPs o x [] ++ ([32], 1, wordN n.1, 0) :: (formPs (o + x.length) y [32] ++ [([], 5, [41], 0)])) := congrFun (valT_two _ _ _ _ hx hy h1 hA hB) s
end
theorem glue_form {o d : Nat} {l : List Np} (h : Tree o l d) : ∀ s, glue (formPs o l s) = s ++ textN o l := by
  refine tree_ind (P := fun o l _ => ∀ s, glue (formPs o l s) = s ++ textN o l) ?_ ?_ ?_ h
  · intro o n h1 a b c s
    rw [formPs_leaf h1, textN_leaf h1, glue_atom]
  · intro o x d n hx h1 a b c ih s
    rw [formPs_one hx h1 b, textN_one hx h1 b]
    simp [glue, ih]
  · intro o x y e f n hx hy h1 a b c ix iy s
    rw [formPs_two hx hy h1 b c, textN_two hx hy h1 b c]
    simp [glue, glue_app, ix, iy]
theorem kt_form {o d : Nat} {l : List Np} (h : Tree o l d) : ∀ s, (formPs o l s).map (fun p => kt p.2) = formK o l := by
  refine tree_ind (P := fun o l _ => ∀ s, (formPs o l s).map (fun p => kt p.2) = formK o l) ?_ ?_ ?_ h
  · intro o n h1 a b c s
    rw [formPs_leaf h1, formK_leaf h1, kt_atom]
  · intro o x d n hx h1 a b c ih s
    rw [formPs_one hx h1 b, formK_one hx h1 b, List.map_cons, ih]; rfl
  · intro o x y e f n hx hy h1 a b c ix iy s
    rw [formPs_two hx hy h1 b c, formK_two hx hy h1 b c]
    simp only [List.map_cons, List.map_append, ix, iy, List.map_nil]
    rfl
theorem form_fine {o d : Nat} {l : List Np} (h : Tree o l d) : ∀ s, Sep s → Fine (formPs o l s) := by
  refine tree_ind (P := fun o l _ => ∀ s, Sep s → Fine (formPs o l s)) ?_ ?_ ?_ h
  · intro o n h1 a b c s hs
    rw [formPs_leaf h1]
    exact good_atom a hs
  · intro o x d n hx h1 a b c ih s hs
    rw [formPs_one hx h1 b]
    exact fine_cons ⟨good_sym (word_sym (Or.inl h1)) 0, hs⟩ (ih [32] sep_one)
  · intro o x y e f n hx hy h1 a b c ix iy s hs
    rw [formPs_two hx hy h1 b c]
    exact fine_cons (fine_mark hs (by decide) ⟨by decide, by decide, by decide⟩) (fine_app (ix [] sep_nil) (fine_cons ⟨good_sym (word_sym (Or.inr h1)) 0, sep_one⟩ (fine_app (iy [32] sep_one) (fine_cons (fine_mark sep_nil (by decide) ⟨by decide, by decide, by decide⟩) fine_nil))))
theorem form_snug {o d : Nat} {l : List Np} (h : Tree o l d) : ∀ s, Snug (formPs o l s) := by
  refine tree_ind (P := fun o l _ => ∀ s, Snug (formPs o l s)) ?_ ?_ ?_ h
  · intro o n h1 a b c s
    rw [formPs_leaf h1]
    exact atom_snug _ s
  · intro o x d n hx h1 a b c ih s R hst hs
    rw [formPs_one hx h1 b]
    refine ⟨safe_stop (show (1 : Int) ≠ 5 by decide) ?_, ih [32] R hst hs⟩
    show Stop (glue (formPs o x [32] ++ R))
    rw [glue_app, glue_form hx]
    exact stop_cons (show stopB 32 = true by decide)
  · intro o x y e f n hx hy h1 a b c ix iy s R hst hs
    rw [formPs_two hx hy h1 b c]
    simp only [List.cons_append, List.append_assoc, List.nil_append]
    refine ⟨safe_lone (by decide), ix [] _ (stop_cons (show stopB 32 = true by decide)) ⟨safe_stop (show (1 : Int) ≠ 5 by decide) ?_, iy [32] _ (stop_cons (show stopB 41 = true by decide)) ⟨safe_lone (by decide), hs⟩⟩⟩
    show Stop (glue (formPs (o + x.length) y [32] ++ _))
    rw [glue_app, glue_form hy]
    exact stop_cons (show stopB 32 = true by decide)
theorem formK_pos {o d : Nat} {l : List Np} (h : Tree o l d) : 1 ≤ (formK o l).length := by
  refine tree_ind (P := fun o l _ => 1 ≤ (formK o l).length) ?_ ?_ ?_ h
  · intro o n h1 a b c
    rw [formK_leaf h1]
    exact atomK_pos _
  · intro o x d n hx h1 a b c _
    rw [formK_one hx h1 b]; simp
  · intro o x y e f n hx hy h1 a b c _ _
    rw [formK_two hx hy h1 b c]; simp
end Go.Proofs.YtcjnhhbcleljmaaGreatDoor.V
namespace Go.Proofs.YtcjnhhbcleljmaaGreatDoor.V

/-- The kind that a word, a bracket opens (0: the bracket); the kind of a word between two. -/
def openT (t : Kt) : Option Int := if t = (1, wordN 2) then some 2 else if t = (1, wordN 5) then some 5 else if t = (1, wordN 6) then some 6 else if t = (1, wordN 7) then some 7 else if t = (5, [40]) then some 0 else none
def twoT (t : Kt) : Option Int := if t = (1, wordN 3) then some 3 else if t = (1, wordN 4) then some 4 else if t = (1, wordN 8) then some 8 else none
def kOpen (ks : List Kt) (p : Nat) : Option Int := (ks[p]?).bind openT
def kTwo (ks : List Kt) (p : Nat) : Option Int := (ks[p]?).bind twoT
theorem openT_one {k : Int} (h : oneK k = true) : openT (1, wordN k) = some k := by
  rcases oneK_iff.1 h with rfl | rfl | rfl | rfl <;> decide
theorem twoT_two {k : Int} (h : twoK k = true) : twoT (1, wordN k) = some k := by
  rcases twoK_iff.1 h with rfl | rfl | rfl <;> decide
theorem openT_kind {t : Kt} {k : Int} (h : openT t = some k) : (oneK k = true ∧ t = (1, wordN k)) ∨ (k = 0 ∧ t = (5, [40])) := by
  unfold openT at h
  split at h
  · rename_i e; cases h; exact Or.inl ⟨by decide, e⟩
  · split at h
    · rename_i e; cases h; exact Or.inl ⟨by decide, e⟩
    · split at h
      · rename_i e; cases h; exact Or.inl ⟨by decide, e⟩
      · split at h
        · rename_i e; cases h; exact Or.inl ⟨by decide, e⟩
        · split at h
          · rename_i e; cases h; exact Or.inr ⟨rfl, e⟩
          · cases h
theorem twoT_kind {t : Kt} {k : Int} (h : twoT t = some k) : twoK k = true ∧ t = (1, wordN k) := by
  unfold twoT at h
  split at h
  · rename_i e; cases h; exact ⟨by decide, e⟩
  · split at h
    · rename_i e; cases h; exact ⟨by decide, e⟩
    · split at h
      · rename_i e; cases h; exact ⟨by decide, e⟩
      · cases h
theorem openT_name {t : Kt} (h1 : t.1 = 1) (h2 : nameB t.2 = true) : openT t = none := by
  cases h : openT t with
  | none => rfl
  | some k =>
    rcases openT_kind h with ⟨hk, e⟩ | ⟨_, e⟩
    · rw [e] at h2
      simp only at h2
      rw [word_no (Or.inl hk)] at h2
      cases h2
    · rw [e] at h1
      cases h1
theorem kOpen_lt {ks : List Kt} {p : Nat} {k : Int} (h : kOpen ks p = some k) : p < ks.length := by
  unfold kOpen at h
  cases hp : ks[p]? with
  | none => rw [hp] at h; cases h
  | some t => exact (List.getElem?_eq_some_iff.1 hp).1
theorem kTwo_lt {ks : List Kt} {p : Nat} {k : Int} (h : kTwo ks p = some k) : p < ks.length := by
  unfold kTwo at h
  cases hp : ks[p]? with
  | none => rw [hp] at h; cases h
  | some t => exact (List.getElem?_eq_some_iff.1 hp).1
/-- What is open: a kind (0: a bracket whose word is still to come), and the place of the first one of two. -/
abbrev Opn := Int × Int
/-- What ends with the last node, up to a bracket whose second one is still to come. -/
def closeF (ks : List Kt) : List Opn → List Np → Nat → Except Nat (List Opn × List Np × Nat)
  | [], ns, p => .ok ([], ns, p)
  | (k, a) :: r, ns, p =>
    if k = 0 then (match kTwo ks p with
      | none => .error p
      | some j => .ok ((j, (ns.length : Int) - 1) :: r, ns, p + 1))
    else if twoK k = true then (if ks[p]? = some (5, [41]) then closeF ks r (ns ++ [(k, noA, a, (ns.length : Int) - 1)]) (p + 1) else .error p)
    else closeF ks r (ns ++ [(k, noA, (ns.length : Int) - 1, 0)]) p
def formF (ks : List Kt) : Nat → List Opn → List Np → Nat → Except Nat (List Np × Nat)
  | 0, _, _, p => .error p
  | m + 1, st, ns, p => match kOpen ks p with
    | some k => formF ks m ((k, 0) :: st) ns (p + 1)
    | none => match readAt (ks.drop p) p with
      | .error e => .error e
      | .ok x => match closeF ks st (ns ++ [(1, x.1, 0, 0)]) x.2 with
        | .error e => .error e
        | .ok ([], ns', q) => .ok (ns', q)
        | .ok (t :: st', ns', q) => formF ks m (t :: st') ns' q
/-- Behind a node. -/
def finF (ks : List Kt) (m : Nat) (st : List Opn) (ns : List Np) (p : Nat) : Except Nat (List Np × Nat) := match closeF ks st ns p with
  | .error e => .error e
  | .ok ([], ns', q) => .ok (ns', q)
  | .ok (t :: st', ns', q) => formF ks m (t :: st') ns' q
section
variable {ks : List Kt} {m p : Nat} {st : List Opn} {ns : List Np}
theorem formF_open {k : Int} (h : kOpen ks p = some k) : formF ks (m + 1) st ns p = formF ks m ((k, 0) :: st) ns (p + 1) := by
  simp only [formF, h]
theorem formF_bad {e : Nat} (h : kOpen ks p = none) (hr : readAt (ks.drop p) p = .error e) : formF ks (m + 1) st ns p = .error e := by
  simp only [formF, h, hr]
theorem formF_atom {x : At × Nat} (h : kOpen ks p = none) (hr : readAt (ks.drop p) p = .ok x) : formF ks (m + 1) st ns p = finF ks m st (ns ++ [(1, x.1, 0, 0)]) x.2 := by
  simp only [formF, h, hr]; rfl
theorem finF_nil : finF ks m [] ns p = .ok (ns, p) := rfl
theorem finF_bad {a : Int} {r : List Opn} (h : kTwo ks p = none) : finF ks m ((0, a) :: r) ns p = .error p := by
  unfold finF closeF
  rw [if_pos rfl, h]
theorem finF_word {a j : Int} {r : List Opn} (h : kTwo ks p = some j) : finF ks m ((0, a) :: r) ns p = formF ks m ((j, (ns.length : Int) - 1) :: r) ns (p + 1) := by
  unfold finF closeF
  rw [if_pos rfl, h]
theorem finF_two {k a : Int} {r : List Opn} (hk : twoK k = true) (h : ks[p]? = some (5, [41])) : finF ks m ((k, a) :: r) ns p = finF ks m r (ns ++ [(k, noA, a, (ns.length : Int) - 1)]) (p + 1) := by
  conv => lhs; unfold finF closeF
  rw [if_neg (two_ne hk).2, if_pos hk, if_pos h]
  rfl
theorem finF_none {k a : Int} {r : List Opn} (hk : twoK k = true) (h : ks[p]? ≠ some (5, [41])) : finF ks m ((k, a) :: r) ns p = .error p := by
  unfold finF closeF
  rw [if_neg (two_ne hk).2, if_pos hk, if_neg h]
theorem finF_one {k a : Int} {r : List Opn} (hk : oneK k = true) : finF ks m ((k, a) :: r) ns p = finF ks m r (ns ++ [(k, noA, (ns.length : Int) - 1, 0)]) p := by
  conv => lhs; unfold finF closeF
  rw [if_neg (one_ne hk).2, if_neg (by rw [one_not_two hk]; decide)]
  rfl
end
theorem np_eq {n : Np} {k A B : Int} (h1 : n.1 = k) (ha : n.2.1 = noA) (hA : n.2.2.1 = A) (hB : n.2.2.2 = B) : n = (k, noA, A, B) := by
  obtain ⟨a, b, c, d⟩ := n
  simp only at h1 ha hA hB
  rw [h1, ha, hA, hB]
theorem drop_head {ks : List Kt} {p : Nat} {t : Kt} {r : List Kt} (h : ks.drop p = t :: r) : ks[p]? = some t ∧ ks.drop (p + 1) = r := by
  constructor
  · have := List.getElem?_drop (xs := ks) (i := p) (j := 0)
    rw [h] at this
    simpa using this.symm
  · rw [← List.drop_drop, h]; rfl
/-- A whole one's signs are read as it. -/
theorem formF_tree {ks : List Kt} {o d : Nat} {l : List Np} (h : Tree o l d) : ∀ (m : Nat) (st : List Opn) (ns : List Np) (p : Nat) (rest : List Kt), ns.length = o → ks.drop p = formK o l ++ rest → NoHead (5, [40]) rest → (formK o l).length ≤ m →
    ∃ m', m ≤ m' + (formK o l).length ∧ formF ks m st ns p = finF ks m' st (ns ++ l) (p + (formK o l).length) := by
  refine tree_ind (P := fun o l _ => ∀ (m : Nat) (st : List Opn) (ns : List Np) (p : Nat) (rest : List Kt), ns.length = o → ks.drop p = formK o l ++ rest → NoHead (5, [40]) rest → (formK o l).length ≤ m →
    ∃ m', m ≤ m' + (formK o l).length ∧ formF ks m st ns p = finF ks m' st (ns ++ l) (p + (formK o l).length)) ?_ ?_ ?_ h
  · intro o n h1 ha hA hB m st ns p rest hns hd hr hm
    rw [formK_leaf h1] at hd hm ⊢
    have hpos := atomK_pos n.2.1
    obtain ⟨m, rfl⟩ : ∃ j, m = j + 1 := ⟨m - 1, by omega⟩
    refine ⟨m, by omega, ?_⟩
    have hread := readAt_atom (p := p) ha hr
    rw [← hd] at hread
    have hn : nameB n.2.1.1 = true := by
      simp only [rightA, Bool.and_eq_true] at ha
      exact ha.1
    have ho : kOpen ks p = none := by
      have : ∃ r, ks.drop p = (1, n.2.1.1) :: r := by
        obtain ⟨r, e⟩ := atomK_head n.2.1
        rw [hd, e]; exact ⟨_, rfl⟩
      obtain ⟨r, e⟩ := this
      unfold kOpen
      rw [(drop_head e).1]
      exact openT_name rfl hn
    rw [formF_atom ho hread]
    have e : n = (1, n.2.1, 0, 0) := by
      obtain ⟨a, b, c, d⟩ := n
      simp only at h1 hA hB ⊢
      rw [h1, hA, hB]
    rw [← e]
  · intro o x d n hx h1 ha hA hB ih m st ns p rest hns hd hr hm
    rw [formK_one hx h1 hA] at hd hm ⊢
    simp only [List.length_cons] at hm ⊢
    obtain ⟨m, rfl⟩ : ∃ j, m = j + 1 := ⟨m - 1, by omega⟩
    obtain ⟨e1, e2⟩ := drop_head (t := (1, wordN n.1)) (r := formK o x ++ rest) (by rw [hd]; rfl)
    have ho : kOpen ks p = some n.1 := by unfold kOpen; rw [e1]; exact openT_one h1
    obtain ⟨m', hm', hf⟩ := ih m ((n.1, 0) :: st) ns (p + 1) rest hns e2 hr (by omega)
    refine ⟨m', by omega, ?_⟩
    rw [formF_open ho, hf, finF_one h1]
    have e : n = (n.1, noA, ((ns ++ x).length : Int) - 1, 0) := np_eq rfl ha (by rw [hA, List.length_append, hns]) hB
    rw [← e, List.append_assoc]
    rw [show p + 1 + (formK o x).length = p + ((formK o x).length + 1) by omega]
  · intro o x y e f n hx hy h1 ha hA hB ix iy m st ns p rest hns hd hr hm
    rw [formK_two hx hy h1 hA hB] at hd hm ⊢
    simp only [List.length_cons, List.length_append, List.length_nil] at hm ⊢
    obtain ⟨m, rfl⟩ : ∃ j, m = j + 1 := ⟨m - 1, by omega⟩
    obtain ⟨e1, e2⟩ := drop_head (t := (5, [40])) (r := formK o x ++ ((1, wordN n.1) :: (formK (o + x.length) y ++ ((5, [41]) :: rest)))) (by rw [hd]; simp)
    have ho : kOpen ks p = some 0 := by unfold kOpen; rw [e1]; rfl
    obtain ⟨m1, hm1, hf1⟩ := ix m ((0, 0) :: st) ns (p + 1) _ hns e2 (noHead_cons (by simp)) (by omega)
    have e3 : ks.drop (p + 1 + (formK o x).length) = (1, wordN n.1) :: (formK (o + x.length) y ++ ((5, [41]) :: rest)) := by
      rw [← List.drop_drop, e2, List.drop_left]
    obtain ⟨e4, e5⟩ := drop_head e3
    have ht : kTwo ks (p + 1 + (formK o x).length) = some n.1 := by unfold kTwo; rw [e4]; exact twoT_two h1
    obtain ⟨m2, hm2, hf2⟩ := iy m1 ((n.1, ((ns ++ x).length : Int) - 1) :: st) (ns ++ x) (p + 1 + (formK o x).length + 1) _ (by rw [List.length_append, hns]) e5 (noHead_cons (by simp)) (by omega)
    have e6 : ks.drop (p + 1 + (formK o x).length + 1 + (formK (o + x.length) y).length) = (5, [41]) :: rest := by
      rw [← List.drop_drop, e5, List.drop_left]
    refine ⟨m2, by omega, ?_⟩
    rw [formF_open ho, hf1, finF_word ht, hf2, finF_two h1 (drop_head e6).1]
    have en : n = (n.1, noA, ((ns ++ x).length : Int) - 1, ((ns ++ x ++ y).length : Int) - 1) := np_eq rfl ha (by rw [hA, List.length_append, hns]) (by rw [hB]; simp only [List.length_append, hns])
    rw [← en]
    rw [show ns ++ x ++ y ++ [n] = ns ++ (x ++ y ++ [n]) by simp]
    congr 1
    omega

/-- Read from a place on. -/
def readF (ks : List Kt) (p : Nat) : Except Nat (List Np × Nat) := match formF ks (ks.length + 1 - p) [] [] p with
  | .error e => .error e
  | .ok x => if rightFm x.1 = true then .ok x else .error p
/-- A pattern: name, trigger, nodes. -/
abbrev Pp := List UInt8 × At × List Np
def rightP (p : Pp) : Bool := nameB p.1 && (rightA p.2.1 && rightFm p.2.2)
def wordPat : List UInt8 := [112, 97, 116, 116, 101, 114, 110]
def patF (ks : List Kt) (p : Nat) : Except Nat (Pp × Nat) :=
  if ks[p]? = some (1, wordPat) then (match ks[p + 1]? with
    | none => .error (p + 1)
    | some t => if nameK ks (p + 1) = true then (if ks[p + 2]? = some (5, [58]) then (match readAt (ks.drop (p + 3)) (p + 3) with
      | .error e => .error e
      | .ok a => if ks[a.2]? = some (5, [61, 62]) then (match formF ks (ks.length + 1 - (a.2 + 1)) [] [] (a.2 + 1) with
        | .error e => .error e
        | .ok x => if ks[x.2]? = some (5, [46]) then .ok ((t.2, a.1, x.1), x.2 + 1) else .error x.2)
        else .error a.2) else .error (p + 2)) else .error (p + 1))
  else .error p
def readP (ks : List Kt) (p : Nat) : Except Nat (Pp × Nat) := match patF ks p with
  | .error e => .error e
  | .ok x => if rightP x.1 = true then .ok x else .error p
def patPs (p : Pp) : List (List UInt8 × Tk) :=
  ([], 1, wordPat, 0) :: ([32], 1, p.1, 0) :: ([], 5, [58], 0) :: (atomPs [32] p.2.1 ++ ([32], 5, [61, 62], 0) :: (formPs 0 p.2.2 [32] ++ [([], 5, [46], 0)]))
def textP (p : Pp) : List UInt8 := wordPat ++ 32 :: (p.1 ++ 58 :: 32 :: (textA p.2.1 ++ 32 :: 61 :: 62 :: 32 :: (textN 0 p.2.2 ++ [46])))
def patK (p : Pp) : List Kt := (1, wordPat) :: (1, p.1) :: (5, [58]) :: (atomK p.2.1 ++ (5, [61, 62]) :: (formK 0 p.2.2 ++ [(5, [46])]))
theorem rightP_iff {p : Pp} : rightP p = true ↔ nameB p.1 = true ∧ rightA p.2.1 = true ∧ rightFm p.2.2 = true := by
  simp only [rightP, Bool.and_eq_true]
theorem glue_pat {p : Pp} (h : rightP p = true) : glue (patPs p) = textP p := by
  obtain ⟨_, _, h3⟩ := rightP_iff.1 h
  obtain ⟨_, d, _, ht⟩ := rightFm_iff.1 h3
  unfold patPs textP
  simp [glue, glue_app, glue_atom, glue_form ht]
theorem kt_pat {p : Pp} (h : rightP p = true) : (patPs p).map (fun p => kt p.2) = patK p := by
  obtain ⟨_, _, h3⟩ := rightP_iff.1 h
  obtain ⟨_, d, _, ht⟩ := rightFm_iff.1 h3
  unfold patPs patK
  simp only [List.map_cons, List.map_append, kt_atom, kt_form ht, List.map_nil]
  rfl
theorem pat_fine {p : Pp} (h : rightP p = true) : Fine (patPs p) := by
  obtain ⟨h1, h2, h3⟩ := rightP_iff.1 h
  obtain ⟨_, d, _, ht⟩ := rightFm_iff.1 h3
  have hsym : symB p.1 = true := by
    simp only [nameB, Bool.and_eq_true] at h1
    exact h1.1
  exact fine_cons ⟨good_sym (show symB wordPat = true by decide) 0, sep_nil⟩ (fine_cons ⟨good_sym hsym 0, sep_one⟩ (fine_cons (fine_mark sep_nil (by decide) ⟨by decide, by decide, by decide⟩)
    (fine_app (good_atom h2 sep_one) (fine_cons ⟨good_pair (by decide), sep_one⟩ (fine_app (form_fine ht [32] sep_one) (fine_cons (fine_mark sep_nil (by decide) ⟨by decide, by decide, by decide⟩) fine_nil))))))
theorem safe_colon1 {x r : List UInt8} : Safe 1 x (58 :: r) := by
  refine ⟨fun _ => ?_, fun e => by omega, fun e => by omega⟩
  show innB 58 = false
  decide
theorem pat_safe {p : Pp} (h : rightP p = true) : SafeAll (patPs p) := by
  obtain ⟨_, _, h3⟩ := rightP_iff.1 h
  obtain ⟨_, d, _, ht⟩ := rightFm_iff.1 h3
  unfold patPs
  exact ⟨safe_stop (show (1 : Int) ≠ 5 by decide) (stop_cons (show stopB 32 = true by decide)), safe_colon1, safe_lone (by decide),
    atom_snug p.2.1 [32] _ (stop_cons (show stopB 32 = true by decide)) ⟨safe_pair (by decide), form_snug ht [32] _ (stop_cons (show stopB 46 = true by decide)) ⟨safe_lone (by decide), trivial⟩⟩⟩
theorem lex_pat {p : Pp} (h : rightP p = true) (q : Nat) : ∃ us, lexA rightK (textP p) q = .ok us ∧ us.map kt = patK p := by
  obtain ⟨us, u1, u2⟩ := lex_safe (R := rightK) (ps := patPs p) (q := q) (pat_fine h) (pat_safe h)
  rw [glue_pat h] at u1
  rw [kt_pat h] at u2
  exact ⟨us, u1, u2⟩
theorem lex_form {l : List Np} (h : rightFm l = true) (q : Nat) : ∃ us, lexA rightK (textN 0 l) q = .ok us ∧ us.map kt = formK 0 l := by
  obtain ⟨_, d, _, ht⟩ := rightFm_iff.1 h
  have hs := form_snug ht [] [] (Or.inl rfl) trivial
  rw [List.append_nil] at hs
  obtain ⟨us, u1, u2⟩ := lex_safe (R := rightK) (ps := formPs 0 l []) (q := q) (form_fine ht [] sep_nil) hs
  rw [glue_form ht, List.nil_append] at u1
  rw [kt_form ht] at u2
  exact ⟨us, u1, u2⟩
theorem readF_text {l : List Np} (h : rightFm l = true) : readF (formK 0 l) 0 = .ok (l, (formK 0 l).length) := by
  obtain ⟨_, d, _, ht⟩ := rightFm_iff.1 h
  obtain ⟨m, _, e⟩ := formF_tree (ks := formK 0 l) ht ((formK 0 l).length + 1) [] [] 0 [] rfl (by simp) (fun c r e => by cases e) (by omega)
  unfold readF
  rw [Nat.sub_zero, e, finF_nil]
  simp only [List.nil_append, Nat.zero_add]
  rw [if_pos h]
theorem readP_text {p : Pp} (h : rightP p = true) : readP (patK p) 0 = .ok (p, (patK p).length) := by
  obtain ⟨h1, h2, h3⟩ := rightP_iff.1 h
  obtain ⟨_, d, _, ht⟩ := rightFm_iff.1 h3
  obtain ⟨n, a, l⟩ := p
  simp only at h1 h2 h3 ht
  have hd : (patK (n, a, l)).drop 3 = atomK a ++ (5, [61, 62]) :: (formK 0 l ++ [(5, [46])]) := rfl
  have hra := readAt_atom (p := 3) (rest := (5, [61, 62]) :: (formK 0 l ++ [(5, [46])])) h2 (noHead_cons (by simp))
  rw [← hd] at hra
  have hd2 : (patK (n, a, l)).drop (3 + (atomK a).length) = (5, [61, 62]) :: (formK 0 l ++ [(5, [46])]) := by
    rw [← List.drop_drop, hd, List.drop_left]
  obtain ⟨e1, e2⟩ := drop_head hd2
  have hlen : (patK (n, a, l)).length = 3 + (atomK a).length + 1 + (formK 0 l).length + 1 := by
    simp only [patK, List.length_cons, List.length_append, List.length_nil]; omega
  obtain ⟨m, _, e⟩ := formF_tree (ks := patK (n, a, l)) ht ((patK (n, a, l)).length + 1 - (3 + (atomK a).length + 1)) [] [] (3 + (atomK a).length + 1) [(5, [46])] rfl e2 (noHead_cons (by simp)) (by omega)
  have hd3 : (patK (n, a, l)).drop (3 + (atomK a).length + 1 + (formK 0 l).length) = [(5, [46])] := by
    rw [← List.drop_drop, e2, List.drop_left]
  have e3 := (drop_head hd3).1
  rw [finF_nil, List.nil_append] at e
  have hp : patF (patK (n, a, l)) 0 = .ok ((n, a, l), (patK (n, a, l)).length) := by
    unfold patF
    have k0 : (patK (n, a, l))[0]? = some (1, wordPat) := rfl
    have k1 : (patK (n, a, l))[0 + 1]? = some (1, n) := rfl
    have k2 : (patK (n, a, l))[0 + 2]? = some (5, [58]) := rfl
    have k3 : nameK (patK (n, a, l)) (0 + 1) = true := by unfold nameK; rw [k1]; simp [h1]
    rw [if_pos k0, k1]
    simp only
    rw [if_pos k3, if_pos k2, Nat.zero_add, hra]
    simp only
    rw [if_pos e1, e]
    simp only
    rw [if_pos e3, hlen]
  unfold readP
  rw [hp]
  simp only
  rw [if_pos h]
theorem textN_inj {a b : List Np} (ha : rightFm a = true) (hb : rightFm b = true) (h : textN 0 a = textN 0 b) : a = b := by
  obtain ⟨us, h1, h2⟩ := lex_form ha 0
  obtain ⟨vs, k1, k2⟩ := lex_form hb 0
  rw [h, k1] at h1
  cases h1
  have e1 := readF_text ha
  rw [← h2, k2, readF_text hb] at e1
  cases e1
  rfl
theorem textP_inj {a b : Pp} (ha : rightP a = true) (hb : rightP b = true) (h : textP a = textP b) : a = b := by
  obtain ⟨us, h1, h2⟩ := lex_pat ha 0
  obtain ⟨vs, k1, k2⟩ := lex_pat hb 0
  rw [h, k1] at h1
  cases h1
  have e1 := readP_text ha
  rw [← h2, k2, readP_text hb] at e1
  cases e1
  rfl
theorem closeF_bounds {ks : List Kt} : ∀ {st : List Opn} {ns : List Np} {p : Nat} {x : List Opn × List Np × Nat}, p ≤ ks.length → closeF ks st ns p = .ok x → p ≤ x.2.2 ∧ x.2.2 ≤ ks.length := by
  intro st
  induction st with
  | nil => intro ns p x hp h; cases h; exact ⟨Nat.le_refl _, hp⟩
  | cons t r ih =>
    intro ns p x hp h
    obtain ⟨k, a⟩ := t
    unfold closeF at h
    split at h
    · cases ht : kTwo ks p with
      | none => rw [ht] at h; cases h
      | some j =>
        rw [ht] at h
        cases h
        have := kTwo_lt ht
        exact ⟨by simp, by simp only; omega⟩
    · split at h
      · split at h
        · rename_i hc
          have := (List.getElem?_eq_some_iff.1 hc).1
          have := ih (by omega) h
          omega
        · cases h
      · exact ih hp h
theorem formF_bounds {ks : List Kt} : ∀ {m : Nat} {st : List Opn} {ns : List Np} {p : Nat} {x : List Np × Nat}, p ≤ ks.length → formF ks m st ns p = .ok x → p < x.2 ∧ x.2 ≤ ks.length := by
  intro m
  induction m with
  | zero => intro st ns p x _ h; cases h
  | succ m ih =>
    intro st ns p x hp h
    cases ho : kOpen ks p with
    | some k =>
      rw [formF_open ho] at h
      have := kOpen_lt ho
      have := ih (by omega) h
      omega
    | none =>
      cases hr : readAt (ks.drop p) p with
      | error e => rw [formF_bad ho hr] at h; cases h
      | ok y =>
        rw [formF_atom ho hr] at h
        have hb := readAt_bounds hr
        rw [List.length_drop] at hb
        unfold finF at h
        cases hc : closeF ks st (ns ++ [(1, y.1, 0, 0)]) y.2 with
        | error e => rw [hc] at h; cases h
        | ok z =>
          obtain ⟨st', ns', q⟩ := z
          have hb2 := closeF_bounds (by omega) hc
          rw [hc] at h
          cases st' with
          | nil => cases h; simp only at hb2; exact ⟨by simp only; omega, by simp only; omega⟩
          | cons t st' =>
            simp only at h hb2
            have := ih (by omega) h
            omega
theorem readF_ok {ks : List Kt} {p : Nat} {x : List Np × Nat} (hp : p ≤ ks.length) (h : readF ks p = .ok x) : rightFm x.1 = true ∧ p < x.2 ∧ x.2 ≤ ks.length := by
  unfold readF at h
  cases hf : formF ks (ks.length + 1 - p) [] [] p with
  | error e => rw [hf] at h; cases h
  | ok y =>
    rw [hf] at h
    simp only at h
    split at h
    · rename_i hr
      cases h
      exact ⟨hr, formF_bounds hp hf⟩
    · cases h
theorem readP_ok {ks : List Kt} {p : Nat} {x : Pp × Nat} (_hp : p ≤ ks.length) (h : readP ks p = .ok x) : rightP x.1 = true ∧ p < x.2 ∧ x.2 ≤ ks.length := by
  unfold readP at h
  cases hf : patF ks p with
  | error e => rw [hf] at h; cases h
  | ok y =>
    rw [hf] at h
    simp only at h
    split at h
    case isFalse => cases h
    rename_i hr
    cases h
    refine ⟨hr, ?_⟩
    unfold patF at hf
    split at hf
    case isFalse => cases hf
    split at hf
    · cases hf
    split at hf
    case isFalse => cases hf
    split at hf
    case isFalse => cases hf
    rename_i h58
    have hl := (List.getElem?_eq_some_iff.1 h58).1
    cases ha : readAt (ks.drop (p + 3)) (p + 3) with
    | error e => rw [ha] at hf; cases hf
    | ok a =>
      rw [ha] at hf
      simp only at hf
      split at hf
      case isFalse => cases hf
      rename_i he
      have hl2 := (List.getElem?_eq_some_iff.1 he).1
      have hb := readAt_bounds ha
      cases hx : formF ks (ks.length + 1 - (a.2 + 1)) [] [] (a.2 + 1) with
      | error e => rw [hx] at hf; cases hf
      | ok z =>
        rw [hx] at hf
        simp only at hf
        split at hf
        case isFalse => cases hf
        rename_i h46
        have hl3 := (List.getElem?_eq_some_iff.1 h46).1
        cases hf
        have hb2 := formF_bounds (by omega) hx
        exact ⟨by simp only; omega, by simp only; omega⟩
end Go.Proofs.YtcjnhhbcleljmaaGreatDoor.V
namespace Go.Proofs.YtcjnhhbcleljmaaGreatDoor.V

/-- Where a node's own begin, by those of the nodes ahead. -/
def growP (T : List Tr) (n : Np) : Option Tr :=
  if n.1 = 1 then (if rightA n.2.1 = true ∧ n.2.2.1 = 0 ∧ n.2.2.2 = 0 then some (T.length, 1) else none)
  else match T.getLast? with
    | none => none
    | some t => if n.2.1 = noA then
        (if oneK n.1 = true then (if n.2.2.1 = (T.length : Int) - 1 ∧ n.2.2.2 = 0 then some (t.1, t.2 + 1) else none)
        else if twoK n.1 = true then (if n.2.2.2 = (T.length : Int) - 1 ∧ n.2.2.1 = (t.1 : Int) - 1 ∧ 0 ≤ n.2.2.1 then (T[n.2.2.1.toNat]?).map (fun u => (u.1, max u.2 t.2 + 1)) else none)
        else none) else none
def growL (T : List Tr) : List Np → Option (List Tr)
  | [] => some T
  | n :: r => (growP T n).bind (fun t => growL (T ++ [t]) r)
theorem growL_app : ∀ (l r : List Np) (T : List Tr), growL T (l ++ r) = (growL T l).bind (fun T' => growL T' r) := by
  intro l
  induction l with
  | nil => intro r T; rfl
  | cons n l ih =>
    intro r T
    simp only [List.cons_append, growL]
    cases growP T n with
    | none => rfl
    | some t => simp only [Option.bind_some, ih]
theorem growL_one (T : List Tr) (n : Np) : growL T [n] = (growP T n).map (fun t => T ++ [t]) := by
  simp only [growL]
  cases growP T n <;> rfl
theorem growL_snoc {l : List Np} {k : Nat} (hk : k < l.length) {T : List Tr} (h : growL [] (l.take k) = some T) : growL [] (l.take (k + 1)) = (growP T l[k]).map (fun t => T ++ [t]) := by
  rw [List.take_succ_eq_append_getElem hk, growL_app, h, Option.bind_some, growL_one]
theorem growP_is {T : List Tr} {n : Np} (h1 : n.1 = 1) : growP T n = (if rightA n.2.1 = true ∧ n.2.2.1 = 0 ∧ n.2.2.2 = 0 then some (T.length, 1) else none) := by
  unfold growP
  rw [if_pos h1]
theorem growP_nil {n : Np} (h1 : n.1 ≠ 1) : growP [] n = none := by
  unfold growP
  rw [if_neg h1]
  rfl
theorem growP_one {T : List Tr} {t : Tr} {n : Np} (h1 : oneK n.1 = true) (ht : T.getLast? = some t) (ha : n.2.1 = noA) : growP T n = (if n.2.2.1 = (T.length : Int) - 1 ∧ n.2.2.2 = 0 then some (t.1, t.2 + 1) else none) := by
  unfold growP
  rw [if_neg (one_ne h1).1, ht]
  simp only
  rw [if_pos ha, if_pos h1]
theorem growP_two {T : List Tr} {t : Tr} {n : Np} (h1 : twoK n.1 = true) (ht : T.getLast? = some t) (ha : n.2.1 = noA) : growP T n = (if n.2.2.2 = (T.length : Int) - 1 ∧ n.2.2.1 = (t.1 : Int) - 1 ∧ 0 ≤ n.2.2.1 then (T[n.2.2.1.toNat]?).map (fun u => (u.1, max u.2 t.2 + 1)) else none) := by
  unfold growP
  rw [if_neg (two_ne h1).1, ht]
  simp only
  rw [if_pos ha, if_neg (by rw [two_not_one h1]; decide), if_pos h1]
theorem growP_bare {T : List Tr} {n : Np} (h1 : n.1 ≠ 1) (ha : n.2.1 ≠ noA) : growP T n = none := by
  unfold growP
  rw [if_neg h1]
  cases T.getLast? with
  | none => rfl
  | some t => simp only; rw [if_neg ha]
theorem growP_none {T : List Tr} {n : Np} (h1 : n.1 ≠ 1) (h2 : oneK n.1 = false) (h3 : twoK n.1 = false) : growP T n = none := by
  unfold growP
  rw [if_neg h1]
  cases T.getLast? with
  | none => rfl
  | some t =>
    simp only
    split
    · rw [if_neg (by rw [h2]; decide), if_neg (by rw [h3]; decide)]
    · rfl
theorem growP_kind {T : List Tr} {n : Np} {t : Tr} (h : growP T n = some t) : (n.1 = 1 ∧ rightA n.2.1 = true ∧ n.2.2.1 = 0 ∧ n.2.2.2 = 0 ∧ t = (T.length, 1))
    ∨ (oneK n.1 = true ∧ n.2.1 = noA ∧ n.2.2.1 = (T.length : Int) - 1 ∧ n.2.2.2 = 0 ∧ ∃ u, T.getLast? = some u ∧ t = (u.1, u.2 + 1))
    ∨ (twoK n.1 = true ∧ n.2.1 = noA ∧ n.2.2.2 = (T.length : Int) - 1 ∧ 0 ≤ n.2.2.1 ∧ ∃ u v, T.getLast? = some u ∧ n.2.2.1 = (u.1 : Int) - 1 ∧ T[n.2.2.1.toNat]? = some v ∧ t = (v.1, max v.2 u.2 + 1)) := by
  by_cases h1 : n.1 = 1
  · rw [growP_is h1] at h
    split at h
    · rename_i hc
      cases h
      exact Or.inl ⟨h1, hc.1, hc.2.1, hc.2.2, rfl⟩
    · cases h
  · by_cases ha : n.2.1 = noA
    case neg => rw [growP_bare h1 ha] at h; cases h
    cases hl : T.getLast? with
    | none =>
      unfold growP at h
      rw [if_neg h1, hl] at h
      cases h
    | some u =>
      cases h2 : oneK n.1 with
      | true =>
        rw [growP_one h2 hl ha] at h
        split at h
        · rename_i hc
          cases h
          exact Or.inr (Or.inl ⟨rfl, ha, hc.1, hc.2, u, rfl, rfl⟩)
        · cases h
      | false =>
        cases h3 : twoK n.1 with
        | false => rw [growP_none h1 h2 h3] at h; cases h
        | true =>
          rw [growP_two h3 hl ha] at h
          split at h
          · rename_i hc
            simp only [Option.map_eq_some_iff] at h
            obtain ⟨v, hv, rfl⟩ := h
            exact Or.inr (Or.inr ⟨rfl, ha, hc.1, hc.2.2, u, v, rfl, hc.2.1, hv, rfl⟩)
          · cases h
theorem getLast_mem {T : List Tr} {u : Tr} (h : T.getLast? = some u) : u ∈ T := List.mem_of_getLast? h
theorem growP_lt {T : List Tr} {n : Np} {t : Tr} (hT : ∀ u ∈ T, u.1 < T.length ∧ u.2 ≤ T.length) (h : growP T n = some t) : t.1 < T.length + 1 ∧ t.2 ≤ T.length + 1 := by
  rcases growP_kind h with ⟨_, _, _, _, rfl⟩ | ⟨_, _, _, _, u, hu, rfl⟩ | ⟨_, _, _, _, u, v, hu, _, hv, rfl⟩
  · exact ⟨by simp, by simp⟩
  · have := hT u (getLast_mem hu)
    exact ⟨by simp only; omega, by simp only; omega⟩
  · have h1 := hT u (getLast_mem hu)
    have h2 := hT v (List.mem_of_getElem? hv)
    exact ⟨by simp only; omega, by simp only; omega⟩
theorem growL_lt : ∀ {l : List Np} {T T' : List Tr}, (∀ u ∈ T, u.1 < T.length ∧ u.2 ≤ T.length) → growL T l = some T' → (∀ u ∈ T', u.1 < T'.length ∧ u.2 ≤ T'.length) ∧ T'.length = T.length + l.length := by
  intro l
  induction l with
  | nil => intro T T' hT h; cases h; exact ⟨hT, rfl⟩
  | cons n l ih =>
    intro T T' hT h
    simp only [growL] at h
    cases hp : growP T n with
    | none => rw [hp] at h; cases h
    | some t =>
      rw [hp, Option.bind_some] at h
      have ht := growP_lt hT hp
      obtain ⟨i1, i2⟩ := ih (T := T ++ [t]) (fun u hu => by
        rw [List.length_append, List.length_singleton]
        rcases List.mem_append.1 hu with hu | hu
        · have := hT u hu; omega
        · rw [List.mem_singleton.1 hu]; exact ht) h
      refine ⟨i1, ?_⟩
      rw [i2, List.length_append, List.length_singleton, List.length_cons]; omega
theorem growL_len {l : List Np} {T : List Tr} (h : growL [] l = some T) : T.length = l.length := by
  have := (growL_lt (fun u hu => by cases hu) h).2
  simpa using this
theorem growL_bd {l : List Np} {T : List Tr} (h : growL [] l = some T) : ∀ u ∈ T, u.1 < T.length ∧ u.2 ≤ T.length := (growL_lt (fun u hu => by cases hu) h).1
/-- Each place's own. -/
theorem growL_pre : ∀ {l : List Np} {T T' : List Tr}, growL T l = some T' → ∃ r, T' = T ++ r := by
  intro l
  induction l with
  | nil => intro T T' h; cases h; exact ⟨[], by simp⟩
  | cons n l ih =>
    intro T T' h
    simp only [growL] at h
    cases hp : growP T n with
    | none => rw [hp] at h; cases h
    | some t =>
      rw [hp, Option.bind_some] at h
      obtain ⟨r, rfl⟩ := ih h
      exact ⟨t :: r, by simp⟩
theorem growL_take {l : List Np} {T : List Tr} (h : growL [] l = some T) (k : Nat) : growL [] (l.take k) = some (T.take k) := by
  have e : l = l.take k ++ l.drop k := (List.take_append_drop k l).symm
  have hlen := growL_len h
  rw [e, growL_app] at h
  cases hx : growL [] (l.take k) with
  | none => rw [hx] at h; cases h
  | some U =>
    rw [hx, Option.bind_some] at h
    obtain ⟨r, hr⟩ := growL_pre h
    have hU := growL_len hx
    by_cases hk : k ≤ l.length
    · rw [hr, List.take_left' (by rw [hU, List.length_take]; omega)]
    · rw [List.drop_eq_nil_of_le (by omega)] at h
      cases h
      rw [List.take_of_length_le (by omega)]
theorem growL_at {l : List Np} {T : List Tr} (h : growL [] l = some T) {k : Nat} (hk : k < l.length) : ∃ t, T[k]? = some t ∧ growP (T.take k) l[k] = some t := by
  have h1 := growL_take h k
  have h2 := growL_take h (k + 1)
  have hlen := growL_len h
  rw [growL_snoc hk h1] at h2
  simp only [Option.map_eq_some_iff] at h2
  obtain ⟨t, ht, e⟩ := h2
  rw [List.take_succ_eq_append_getElem (by omega)] at e
  have e2 := List.append_cancel_left e
  have e3 : t = T[k] := by simpa using e2
  exact ⟨t, by rw [e3]; exact List.getElem?_eq_getElem (by omega), ht⟩
/-- A whole one. -/
theorem growL_tree {o d : Nat} {l : List Np} (h : Tree o l d) : ∀ acc : List Tr, acc.length = o → ∃ mid, growL acc l = some (acc ++ (mid ++ [(o, d)])) ∧ ∀ t ∈ mid, o ≤ t.1 ∧ t.2 ≤ d := by
  refine tree_ind (P := fun o l d => ∀ acc : List Tr, acc.length = o → ∃ mid, growL acc l = some (acc ++ (mid ++ [(o, d)])) ∧ ∀ t ∈ mid, o ≤ t.1 ∧ t.2 ≤ d) ?_ ?_ ?_ h
  · intro o n h1 ha hA hB acc hacc
    refine ⟨[], ?_, fun t ht => by cases ht⟩
    rw [growL_one, growP_is h1, if_pos ⟨ha, hA, hB⟩, hacc]
    rfl
  · intro o x d n hx h1 ha hA hB ih acc hacc
    obtain ⟨mid, hm, hb⟩ := ih acc hacc
    have hl := (show (acc ++ (mid ++ [(o, d)])).length = acc.length + x.length from by
      have hg : ∀ (l : List Np) (T T' : List Tr), growL T l = some T' → T'.length = T.length + l.length := by
        intro l
        induction l with
        | nil => intro T T' h; cases h; rfl
        | cons n l ih =>
          intro T T' h
          simp only [growL] at h
          cases hp : growP T n with
          | none => rw [hp] at h; cases h
          | some t =>
            rw [hp, Option.bind_some] at h
            rw [ih _ _ h, List.length_append, List.length_singleton, List.length_cons]; omega
      exact hg _ _ _ hm)
    refine ⟨mid ++ [(o, d)], ?_, fun t ht => ?_⟩
    · rw [growL_app, hm, Option.bind_some, growL_one, growP_one (t := (o, d)) h1 (by rw [← List.append_assoc, List.getLast?_concat]) ha, if_pos ⟨by rw [hA, hl, hacc], hB⟩]
      simp
    · rcases List.mem_append.1 ht with ht | ht
      · have := hb t ht; omega
      · rw [List.mem_singleton.1 ht]; exact ⟨Nat.le_refl _, by simp⟩
  · intro o x y e f n hx hy h1 ha hA hB ix iy acc hacc
    have hg : ∀ (l : List Np) (T T' : List Tr), growL T l = some T' → T'.length = T.length + l.length := by
      intro l
      induction l with
      | nil => intro T T' h; cases h; rfl
      | cons n l ih =>
        intro T T' h
        simp only [growL] at h
        cases hp : growP T n with
        | none => rw [hp] at h; cases h
        | some t =>
          rw [hp, Option.bind_some] at h
          rw [ih _ _ h, List.length_append, List.length_singleton, List.length_cons]; omega
    obtain ⟨mid, hm, hb⟩ := ix acc hacc
    have hl := hg _ _ _ hm
    have hl2 : (acc ++ (mid ++ [(o, e)])).length = o + x.length := by rw [hl, hacc]
    obtain ⟨mid2, hm2, hb2⟩ := iy _ hl2
    have hl3 := hg _ _ _ hm2
    refine ⟨mid ++ [(o, e)] ++ mid2 ++ [(o + x.length, f)], ?_, fun t ht => ?_⟩
    · rw [growL_app, growL_app, hm, Option.bind_some, hm2, Option.bind_some, growL_one, growP_two (t := (o + x.length, f)) h1 (by rw [← List.append_assoc, List.getLast?_concat]) ha,
        if_pos ⟨by rw [hB, hl3, hl2], by rw [hA], by
          have := tree_pos hx
          rw [hA]; omega⟩]
      have hi : (acc ++ (mid ++ [(o, e)]) ++ (mid2 ++ [(o + x.length, f)]))[n.2.2.1.toNat]? = some (o, e) := by
        have hn : n.2.2.1.toNat = (acc ++ mid).length := by
          simp only [List.length_append, List.length_singleton] at hl ⊢
          rw [hA]; omega
        rw [hn, show acc ++ (mid ++ [(o, e)]) ++ (mid2 ++ [(o + x.length, f)]) = (acc ++ mid) ++ ((o, e) :: (mid2 ++ [(o + x.length, f)])) by simp, List.getElem?_append_right (Nat.le_refl _)]
        simp
      rw [hi]
      simp
    · rcases List.mem_append.1 ht with ht | ht
      · rcases List.mem_append.1 ht with ht | ht
        · rcases List.mem_append.1 ht with ht | ht
          · have := hb t ht; omega
          · rw [List.mem_singleton.1 ht]; exact ⟨Nat.le_refl _, by simp only; omega⟩
        · have := hb2 t ht; omega
      · rw [List.mem_singleton.1 ht]; exact ⟨by simp, by simp only; omega⟩
/-- The stack lies in the list. -/
def Stk (T : List Tr) : Nat → List Tr → Prop
  | i, [] => i = 0
  | i, t :: r => t.1 < i ∧ T[i - 1]? = some t ∧ Stk T t.1 r
theorem stk_app {T : List Tr} (x : Tr) : ∀ {s : List Tr} {i : Nat}, i ≤ T.length → Stk T i s → Stk (T ++ [x]) i s := by
  intro s
  induction s with
  | nil => intro i _ h; exact h
  | cons t r ih =>
    intro i hi h
    obtain ⟨h1, h2, h3⟩ := h
    exact ⟨h1, by rw [List.getElem?_append_left (by omega)]; exact h2, ih (by omega) h3⟩
theorem stk_top {T : List Tr} {s : List Tr} {u : Tr} (h : Stk T T.length s) (hu : T.getLast? = some u) : ∃ r, s = u :: r ∧ u.1 < T.length ∧ Stk T u.1 r := by
  cases s with
  | nil =>
    have : T = [] := List.eq_nil_of_length_eq_zero h
    rw [this] at hu
    cases hu
  | cons t r =>
    obtain ⟨h1, h2, h3⟩ := h
    rw [List.getLast?_eq_getElem?] at hu
    rw [hu] at h2
    cases h2
    exact ⟨r, rfl, h1, h3⟩
theorem stk_step {T : List Tr} {s : List Tr} {n : Np} {t : Tr} (hs : Stk T T.length s) (h : growP T n = some t) : ∃ s', stN T.length s n = some s' ∧ Stk (T ++ [t]) (T.length + 1) s' := by
  have hlast : ∀ t : Tr, (T ++ [t])[T.length + 1 - 1]? = some t := fun t => by
    rw [List.getElem?_append_right (by omega)]
    simp
  rcases growP_kind h with ⟨h1, ha, hA, hB, rfl⟩ | ⟨h1, ha, hA, hB, u, hu, rfl⟩ | ⟨h1, ha, hB, h0, u, v, hu, hA, hv, rfl⟩
  · exact ⟨_, stN_mk_is h1 ha hA hB, by simp, hlast _, stk_app _ (Nat.le_refl _) hs⟩
  · obtain ⟨r, rfl, hlt, hr⟩ := stk_top hs hu
    exact ⟨_, stN_mk_one h1 ha hA hB, by simp only; omega, hlast _, stk_app _ (by omega) hr⟩
  · obtain ⟨r, rfl, hlt, hr⟩ := stk_top hs hu
    cases r with
    | nil =>
      have : u.1 = 0 := hr
      rw [hA, this] at h0
      omega
    | cons w r =>
      obtain ⟨g1, g2, g3⟩ := hr
      have hw : w = v := by
        rw [hA, show ((u.1 : Int) - 1).toNat = u.1 - 1 by omega, g2] at hv
        exact Option.some.inj hv
      subst hw
      exact ⟨_, stN_mk_two h1 ha hB hA, by simp only; omega, hlast _, stk_app _ (by omega) g3⟩
theorem growL_run : ∀ {l : List Np} {T T' s : List Tr}, Stk T T.length s → growL T l = some T' → ∃ s', runN T.length s l = some s' ∧ Stk T' T'.length s' := by
  intro l
  induction l with
  | nil => intro T T' s hs h; cases h; exact ⟨s, rfl, hs⟩
  | cons n l ih =>
    intro T T' s hs h
    simp only [growL] at h
    cases hp : growP T n with
    | none => rw [hp] at h; cases h
    | some t =>
      rw [hp, Option.bind_some] at h
      obtain ⟨s1, e1, hs1⟩ := stk_step hs hp
      have hl : (T ++ [t]).length = T.length + 1 := by simp
      obtain ⟨s2, e2, hs2⟩ := ih (T := T ++ [t]) (s := s1) (by rw [hl]; exact hs1) h
      refine ⟨s2, ?_, hs2⟩
      simp only [runN]
      rw [e1, Option.bind_some, ← hl]
      exact e2
theorem tree_of_grow {l : List Np} {T : List Tr} {d : Nat} (h : growL [] l = some T) (hT : T.getLast? = some (0, d)) : Tree 0 l d := by
  obtain ⟨s, e, hs⟩ := growL_run (T := []) (s := []) rfl h
  obtain ⟨r, rfl, hlt, hr⟩ := stk_top hs hT
  have : r = [] := by
    cases r with
    | nil => rfl
    | cons t r => exact absurd hr.1 (by simp)
  subst this
  exact e
/-- Right: what the list says. -/
theorem right_grow {l : List Np} : rightFm l = true ↔ (1 ≤ l.length ∧ l.length ≤ 40) ∧ ∃ T d, growL [] l = some T ∧ T.getLast? = some (0, d) ∧ d ≤ 12 := by
  rw [rightFm_iff]
  refine and_congr_right (fun _ => ⟨?_, ?_⟩)
  · rintro ⟨d, hd, ht⟩
    obtain ⟨mid, hm, _⟩ := growL_tree ht [] rfl
    exact ⟨_, d, hm, by rw [← List.append_assoc, List.getLast?_concat], hd⟩
  · rintro ⟨T, d, h, hT, hd⟩
    exact ⟨d, hd, tree_of_grow h hT⟩
theorem right_all {l : List Np} {T : List Tr} (h : rightFm l = true) (hT : growL [] l = some T) : ∀ t ∈ T, t.2 ≤ 12 := by
  obtain ⟨_, d, hd, ht⟩ := rightFm_iff.1 h
  obtain ⟨mid, hm, hb⟩ := growL_tree ht [] rfl
  rw [hT] at hm
  cases hm
  intro t hm
  simp only [List.nil_append] at hm
  rcases List.mem_append.1 hm with hm | hm
  · have := hb t hm; omega
  · rw [List.mem_singleton.1 hm]; exact hd
/-- A node's own begin where its last but own one's do. -/
theorem grow_from {l : List Np} {T : List Tr} (h : growL [] l = some T) {k : Nat} (hk : k < l.length) {t : Tr} (ht : T[k]? = some t) :
    (l[k].1 = 1 ∧ t.1 = k ∧ t.2 = 1) ∨ (oneK l[k].1 = true ∧ ∃ (j : Nat) (u : Tr), l[k].2.2.1 = (j : Int) ∧ j < k ∧ T[j]? = some u ∧ t.1 = u.1 ∧ t.2 = u.2 + 1 ∧ l[k].2.2.2 = 0) ∨ (twoK l[k].1 = true ∧ ∃ (i j : Nat) (u v : Tr), l[k].2.2.1 = (j : Int) ∧ j < k ∧ T[j]? = some u ∧ t.1 = u.1 ∧ l[k].2.2.2 = (i : Int) ∧ i < k ∧ T[i]? = some v ∧ t.2 = max u.2 v.2 + 1) := by
  obtain ⟨t', ht', hp⟩ := growL_at h hk
  rw [ht] at ht'
  cases ht'
  have hlen := growL_len h
  have hl : (T.take k).length = k := by rw [List.length_take]; omega
  rcases growP_kind hp with ⟨h1, _, _, _, rfl⟩ | ⟨h1, _, hA, hB, u, hu, rfl⟩ | ⟨h1, _, hB, h0, u, v, hu, hA, hv, rfl⟩
  · exact Or.inl ⟨h1, hl, rfl⟩
  · refine Or.inr (Or.inl ⟨h1, k - 1, u, ?_⟩)
    rw [List.getLast?_eq_getElem?, hl] at hu
    have hk0 : 0 < k := by
      cases k with
      | zero => simp at hu
      | succ k => omega
    rw [List.getElem?_take_of_lt (by omega)] at hu
    rw [hl] at hA
    exact ⟨by rw [hA]; omega, by omega, hu, rfl, rfl, hB⟩
  · rw [List.getLast?_eq_getElem?, hl] at hu
    have hk0 : 0 < k := by
      cases k with
      | zero => simp at hu
      | succ k => omega
    rw [List.getElem?_take_of_lt (by omega)] at hu
    have hj := (List.getElem?_eq_some_iff.1 hv).1
    rw [hl] at hj hB
    rw [List.getElem?_take_of_lt hj] at hv
    exact Or.inr (Or.inr ⟨h1, k - 1, l[k].2.2.1.toNat, v, u, by omega, hj, hv, rfl, by rw [hB]; omega, by omega, hu, rfl⟩)
end Go.Proofs.YtcjnhhbcleljmaaGreatDoor.V
namespace Go.Proofs.YtcjnhhbcleljmaaGreatDoor.V

def oneT (k : Int) (x : List UInt8) : List UInt8 := wordN k ++ 32 :: x
def twoTx (k : Int) (x y : List UInt8) : List UInt8 := 40 :: (x ++ 32 :: (wordN k ++ 32 :: (y ++ [41])))
/-- The nodes' texts. -/
def textT (l : List Np) : List (List UInt8) := accN textA oneT twoTx [] [] l
def nodeT (acc : List (List UInt8)) (n : Np) : List UInt8 := valNd textA oneT twoTx [] acc n
theorem textT_len (l : List Np) : (textT l).length = l.length := by
  unfold textT; rw [accN_len]; simp
theorem textT_snoc {l : List Np} {k : Nat} (hk : k < l.length) : textT (l.take (k + 1)) = textT (l.take k) ++ [nodeT (textT (l.take k)) l[k]] := by
  unfold textT nodeT
  rw [List.take_succ_eq_append_getElem hk, accN_app]
  rfl
theorem accN_pre {α : Type} (leaf : At → α) (one : Int → α → α) (two : Int → α → α → α) (z : α) : ∀ (l : List Np) (acc : List α), ∃ r, accN leaf one two z acc l = acc ++ r := by
  intro l
  induction l with
  | nil => intro acc; exact ⟨[], by simp [accN]⟩
  | cons n l ih =>
    intro acc
    obtain ⟨r, hr⟩ := ih (acc ++ [valNd leaf one two z acc n])
    exact ⟨valNd leaf one two z acc n :: r, by simp [accN, hr]⟩
theorem word_len (k : Int) : (wordN k).length ≤ 6 := by
  unfold wordN
  repeat' split
  all_goals decide
/-- No text of a whole one is longer than so much a node. -/
theorem acc_bound {o d : Nat} {l : List Np} (h : Tree o l d) : ∀ acc : List (List UInt8), acc.length = o → ∃ mid, accN textA oneT twoTx [] acc l = acc ++ (mid ++ [textN o l]) ∧ (textN o l).length ≤ 710 * l.length ∧ ∀ t ∈ mid, t.length ≤ 710 * l.length := by
  refine tree_ind (P := fun o l _ => ∀ acc : List (List UInt8), acc.length = o → ∃ mid, accN textA oneT twoTx [] acc l = acc ++ (mid ++ [textN o l]) ∧ (textN o l).length ≤ 710 * l.length ∧ ∀ t ∈ mid, t.length ≤ 710 * l.length) ?_ ?_ ?_ h
  · intro o n h1 ha hA hB acc hacc
    refine ⟨[], ?_, ?_, fun t ht => by cases ht⟩
    · rw [textN_leaf h1]
      simp [accN, valNd, h1]
    · rw [textN_leaf h1]
      have := textA_len (a := n.2.1) ha
      simp only [List.length_singleton]
      omega
  · intro o x d n hx h1 ha hA hB ih acc hacc
    obtain ⟨mid, hm, hv, hb⟩ := ih acc hacc
    have ht : Tree o (x ++ [n]) (d + 1) := tree_one hx h1 ha hA hB
    have hl := accN_len textA oneT twoTx ([] : List UInt8) x acc
    rw [hm] at hl
    have hA' : n.2.2.1.toNat = (acc ++ mid).length := by
      simp only [List.length_append, List.length_singleton] at hl ⊢
      rw [hA]; omega
    have hg : (acc ++ (mid ++ [textN o x])).getD (acc ++ mid).length [] = textN o x := by
      rw [← List.append_assoc, List.getD_eq_getElem?_getD, List.getElem?_append_right (Nat.le_refl _)]
      simp
    have hw := word_len n.1
    refine ⟨mid ++ [textN o x], ?_, ?_, fun t ht => ?_⟩
    · rw [accN_app, hm, textN_one hx h1 hA]
      simp only [accN, valNd]
      rw [if_neg (one_ne h1).1, if_neg (by rw [one_not_two h1]; decide), hA', hg]
      simp [oneT]
    · rw [textN_one hx h1 hA]
      simp only [List.length_append, List.length_cons, List.length_nil]
      omega
    · simp only [List.length_append, List.length_singleton]
      rcases List.mem_append.1 ht with ht | ht
      · have := hb t ht; omega
      · rw [List.mem_singleton.1 ht]; omega
  · intro o x y e f n hx hy h1 ha hA hB ix iy acc hacc
    obtain ⟨mid, hm, hv, hb⟩ := ix acc hacc
    have hl := accN_len textA oneT twoTx ([] : List UInt8) x acc
    rw [hm] at hl
    have hl2 : (acc ++ (mid ++ [textN o x])).length = o + x.length := by rw [hl, hacc]
    obtain ⟨mid2, hm2, hv2, hb2⟩ := iy _ hl2
    have hl3 := accN_len textA oneT twoTx ([] : List UInt8) y (acc ++ (mid ++ [textN o x]))
    rw [hm2] at hl3
    have hA' : n.2.2.1.toNat = (acc ++ mid).length := by
      simp only [List.length_append, List.length_singleton] at hl ⊢
      rw [hA]; omega
    have hB' : n.2.2.2.toNat = (acc ++ (mid ++ [textN o x]) ++ mid2).length := by
      simp only [List.length_append, List.length_singleton] at hl hl2 hl3 ⊢
      rw [hB]; omega
    have hw := word_len n.1
    refine ⟨mid ++ [textN o x] ++ mid2 ++ [textN (o + x.length) y], ?_, ?_, fun t ht => ?_⟩
    · rw [accN_app, accN_app, hm, hm2, textN_two hx hy h1 hA hB]
      generalize textN o x = v at *
      generalize textN (o + x.length) y = u at *
      simp only [accN, valNd]
      rw [if_neg (two_ne h1).1, if_pos h1, hA', hB']
      have e1 : (acc ++ (mid ++ [v]) ++ (mid2 ++ [u])).getD (acc ++ mid).length [] = v := by
        rw [show acc ++ (mid ++ [v]) ++ (mid2 ++ [u]) = (acc ++ mid) ++ (v :: (mid2 ++ [u])) by simp, List.getD_eq_getElem?_getD, List.getElem?_append_right (Nat.le_refl _)]
        simp
      have e2 : (acc ++ (mid ++ [v]) ++ (mid2 ++ [u])).getD (acc ++ (mid ++ [v]) ++ mid2).length [] = u := by
        rw [← List.append_assoc, List.getD_eq_getElem?_getD, List.getElem?_append_right (Nat.le_refl _)]
        simp
      rw [e1, e2]
      simp [twoTx]
    · rw [textN_two hx hy h1 hA hB]
      simp only [List.length_append, List.length_cons, List.length_nil]
      omega
    · simp only [List.length_append, List.length_singleton]
      rcases List.mem_append.1 ht with ht | ht
      · rcases List.mem_append.1 ht with ht | ht
        · rcases List.mem_append.1 ht with ht | ht
          · have := hb t ht; omega
          · rw [List.mem_singleton.1 ht]; omega
        · have := hb2 t ht; omega
      · rw [List.mem_singleton.1 ht]; omega
theorem textT_last {l : List Np} (h : rightFm l = true) : (textT l).getLast? = some (textN 0 l) := by
  obtain ⟨_, d, _, ht⟩ := rightFm_iff.1 h
  obtain ⟨mid, hm, _⟩ := acc_bound ht [] rfl
  unfold textT
  rw [hm, ← List.append_assoc, List.getLast?_concat]
theorem textN_bound {l : List Np} (h : rightFm l = true) : (textN 0 l).length ≤ 28400 := by
  obtain ⟨hl, d, _, ht⟩ := rightFm_iff.1 h
  obtain ⟨mid, _, hb, _⟩ := acc_bound ht [] rfl
  omega
theorem textT_bound {l : List Np} (h : rightFm l = true) (k : Nat) : ∀ t ∈ textT (l.take k), t.length ≤ 28400 := by
  obtain ⟨hl, d, _, ht⟩ := rightFm_iff.1 h
  obtain ⟨mid, hm, hb1, hb⟩ := acc_bound ht [] rfl
  intro t hmem
  have e : l = l.take k ++ l.drop k := (List.take_append_drop k l).symm
  obtain ⟨r, hr⟩ := accN_pre textA oneT twoTx ([] : List UInt8) (l.drop k) (textT (l.take k))
  have : textT l = textT (l.take k) ++ r := by
    rw [← hr]
    conv => lhs; rw [e]
    unfold textT
    rw [accN_app]
  have h2 : t ∈ textT l := by rw [this]; exact List.mem_append_left _ hmem
  unfold textT at h2
  rw [hm, List.nil_append] at h2
  rcases List.mem_append.1 h2 with h2 | h2
  · have := hb t h2; omega
  · rw [List.mem_singleton.1 h2]; omega
/-- What a node of a right formula is. -/
theorem right_node {l : List Np} (h : rightFm l = true) {k : Nat} (hk : k < l.length) : (l[k].1 = 1 ∧ rightA l[k].2.1 = true) ∨ (oneK l[k].1 = true ∧ ∃ j : Nat, l[k].2.2.1 = (j : Int) ∧ j < k) ∨ (twoK l[k].1 = true ∧ ∃ i j : Nat, l[k].2.2.1 = (j : Int) ∧ j < k ∧ l[k].2.2.2 = (i : Int) ∧ i < k) := by
  obtain ⟨_, T, d, hT, _, _⟩ := right_grow.1 h
  obtain ⟨t, ht, hp⟩ := growL_at hT hk
  rcases grow_from hT hk ht with ⟨h1, _⟩ | ⟨h1, j, u, hj, hjk, _⟩ | ⟨h1, i, j, u, v, hj, hjk, _, _, hi, hik, _⟩
  · refine Or.inl ⟨h1, ?_⟩
    rcases growP_kind hp with ⟨_, ha, _⟩ | ⟨h2, _⟩ | ⟨h2, _⟩
    · exact ha
    · exact absurd h1 (one_ne h2).1
    · exact absurd h1 (two_ne h2).1
  · exact Or.inr (Or.inl ⟨h1, j, hj, hjk⟩)
  · exact Or.inr (Or.inr ⟨h1, i, j, hj, hjk, hi, hik⟩)
theorem textP_len {p : Pp} (h : rightP p = true) : (textP p).length ≤ 30000 := by
  obtain ⟨h1, h2, h3⟩ := rightP_iff.1 h
  have a1 := textA_len (a := p.2.1) h2
  have a2 := textN_bound h3
  have a3 : p.1.length ≤ 24 := by
    simp only [nameB, Bool.and_eq_true] at h1
    have h2 := h1.1
    cases hp : p.1 with
    | nil => simp
    | cons c r =>
      rw [hp] at h2
      simp only [symB, Bool.and_eq_true, decide_eq_true_eq] at h2
      simp only [List.length_cons]
      omega
  unfold textP
  simp only [List.length_append, List.length_cons, List.length_nil]
  have : wordPat.length = 7 := rfl
  omega
end Go.Proofs.YtcjnhhbcleljmaaGreatDoor.V
namespace Go.Proofs.YtcjnhhbcleljmaaGreatDoor.V

theorem termR_five {l : List UInt8} : termR (5, l) = none := rfl
theorem readTs_paren : ∀ (m : Nat) {ts : List Kt} {p : Nat} {x : List Bb × Nat}, ts.length ≤ m → readTs ts p = .ok x → p + 2 ≤ x.2 ∧ ts[x.2 - 1 - p]? = some (5, [41]) ∧ ∀ j, j < x.2 - 1 - p → ts[j]? ≠ some (5, [41]) := by
  intro m
  induction m with
  | zero =>
    intro ts p x hm h
    have : ts = [] := List.eq_nil_of_length_eq_zero (by omega)
    subst this
    cases h
  | succ m ih =>
    intro ts p x hm h
    cases ts with
    | nil => cases h
    | cons t r =>
      rw [readTs_cons] at h
      cases ht : termR t with
      | none => rw [ht] at h; cases h
      | some v =>
        have hne : t ≠ (5, [41]) := by
          rintro rfl
          rw [termR_five] at ht
          cases ht
        rw [ht] at h
        cases r with
        | nil => cases h
        | cons c r' =>
          simp only at h
          split at h
          · rename_i hc
            cases hr : readTs r' (p + 2) with
            | error e => rw [hr] at h; cases h
            | ok y =>
              rw [hr] at h
              cases h
              obtain ⟨i1, i2, i3⟩ := ih (by simp at hm; omega) hr
              simp only
              refine ⟨by omega, ?_, fun j hj => ?_⟩
              · rw [show y.2 - 1 - p = (y.2 - 1 - (p + 2)) + 1 + 1 by omega, List.getElem?_cons_succ, List.getElem?_cons_succ]
                exact i2
              · match j with
                | 0 => simpa using hne
                | 1 => rw [hc]; simp
                | j + 2 =>
                  rw [List.getElem?_cons_succ, List.getElem?_cons_succ]
                  exact i3 j (by omega)
          · split at h
            · rename_i hc
              cases h
              simp only
              refine ⟨by omega, ?_, fun j hj => ?_⟩
              · rw [show p + 2 - 1 - p = 1 by omega, hc]; rfl
              · have : j = 0 := by omega
                subst this
                simpa using hne
            · cases h
/-- The bracket that closes an atom with terms is the first one behind its beginning. -/
theorem readAt_paren {ks : List Kt} {p : Nat} {x : At × Nat} (h : readAt (ks.drop p) p = .ok x) (h0 : x.1.2 ≠ []) : p + 2 ≤ x.2 ∧ ks[x.2 - 1]? = some (5, [41]) ∧ ∀ q, p ≤ q → q < x.2 - 1 → ks[q]? ≠ some (5, [41]) := by
  cases hn : nameK ks p with
  | false => rw [readAt_none hn] at h; cases h
  | true =>
    obtain ⟨t, hp, h1, h2⟩ := nameK_yes hn
    by_cases hc : ks[p + 1]? = some (5, [40])
    · rw [readAt_open hp h1 h2 hc] at h
      cases hr : readTs (ks.drop (p + 2)) (p + 2) with
      | error e => rw [hr] at h; cases h
      | ok y =>
        rw [hr] at h
        cases h
        obtain ⟨i1, i2, i3⟩ := readTs_paren _ (Nat.le_refl _) hr
        simp only
        refine ⟨by omega, ?_, fun q hq hlt => ?_⟩
        · rw [List.getElem?_drop] at i2
          rwa [show p + 2 + (y.2 - 1 - (p + 2)) = y.2 - 1 by omega] at i2
        · by_cases e1 : q = p
          · subst e1
            rw [hp]
            intro e
            rw [Option.some.inj e] at h1
            cases h1
          · by_cases e2 : q = p + 1
            · subst e2
              rw [hc]
              simp
            · have := i3 (q - (p + 2)) (by omega)
              rwa [List.getElem?_drop, show p + 2 + (q - (p + 2)) = q by omega] at this
    · rw [readAt_bare hp h1 h2 hc] at h
      cases h
      exact absurd rfl h0
theorem nameK_of_ok {ks : List Kt} {p : Nat} {x : At × Nat} (h : readAt (ks.drop p) p = .ok x) : nameK ks p = true := by
  cases hn : nameK ks p with
  | true => rfl
  | false => rw [readAt_none hn] at h; cases h
end Go.Proofs.YtcjnhhbcleljmaaGreatDoor.V
namespace Go.Proofs.YtcjnhhbcleljmaaGreatDoor.V

def cutNd (n : Np) : Np := (n.1, cutA n.2.1, n.2.2.1, n.2.2.2)
def cutL (ns : List Np) : List Np := (ns.take 41).map cutNd
def cutO (t : Opn) : Opn := (t.1, min t.2 40)
theorem cutL_len (ns : List Np) : (cutL ns).length = min ns.length 41 := by
  unfold cutL; rw [List.length_map, List.length_take]; omega
theorem cutL_few {ns : List Np} (h : ns.length ≤ 41) : cutL ns = ns.map cutNd := by
  unfold cutL; rw [List.take_of_length_le h]
theorem cutL_add {ns : List Np} (n : Np) (h : ns.length ≤ 40) : cutL (ns ++ [n]) = cutL ns ++ [cutNd n] := by
  rw [cutL_few (by rw [List.length_append, List.length_singleton]; omega), cutL_few (by omega), List.map_append]; rfl
theorem cutL_full {ns : List Np} (n : Np) (h : ¬ ns.length ≤ 40) : cutL (ns ++ [n]) = cutL ns := by
  unfold cutL; rw [List.take_append_of_le_length (by omega)]
/-- As they are read: an atom only where there is one. -/
def FormN (ns : List Np) : Prop := ∀ n ∈ ns, n.1 = 1 ∨ n.2.1 = noA
def PlaceN (st : List Opn) (ns : List Np) : Prop := ∀ t ∈ st, 0 ≤ t.2 ∧ t.2 ≤ (ns.length : Int)
theorem FormN.add {ns : List Np} (h : FormN ns) {n : Np} (hn : n.1 = 1 ∨ n.2.1 = noA) : FormN (ns ++ [n]) := fun x hx => by
  rcases List.mem_append.1 hx with hx | hx
  · exact h x hx
  · rw [List.mem_singleton.1 hx]; exact hn
theorem PlaceN.add {st : List Opn} {ns : List Np} (h : PlaceN st ns) (n : Np) : PlaceN st (ns ++ [n]) := fun t ht => by
  have := h t ht
  rw [List.length_append, List.length_singleton]
  omega
theorem PlaceN.tail {t : Opn} {st : List Opn} {ns : List Np} (h : PlaceN (t :: st) ns) : PlaceN st ns := fun u hu => h u (List.mem_cons_of_mem _ hu)
theorem PlaceN.cons {t : Opn} {st : List Opn} {ns : List Np} (h : PlaceN st ns) (h0 : 0 ≤ t.2) (h1 : t.2 ≤ (ns.length : Int)) : PlaceN (t :: st) ns := fun u hu => by
  rcases List.mem_cons.1 hu with rfl | hu
  · exact ⟨h0, h1⟩
  · exact h u hu
theorem stN_cut {n : Np} (h : n.1 = 1 ∨ n.2.1 = noA) (i : Nat) (s : List Tr) : stN i s (cutNd n) = stN i s n := by
  obtain ⟨k, a, A, B⟩ := n
  unfold cutNd stN
  simp only at h ⊢
  by_cases h1 : k = 1
  · rw [if_pos h1, if_pos h1, right_cutA]
  · rw [if_neg h1, if_neg h1]
    have ha : a = noA := by
      rcases h with h | h
      · exact absurd h h1
      · exact h
    subst ha
    rw [cutA_none]
theorem runN_cut : ∀ {ns : List Np} (_ : FormN ns) (i : Nat) (s : List Tr), runN i s (ns.map cutNd) = runN i s ns := by
  intro ns
  induction ns with
  | nil => intro _ i s; rfl
  | cons n r ih =>
    intro h i s
    simp only [List.map_cons, runN]
    rw [stN_cut (h n (by simp))]
    cases stN i s n with
    | none => rfl
    | some s' => simp only [Option.bind_some]; exact ih (fun x hx => h x (by simp [hx])) _ _
theorem cut_right {ns : List Np} (h : FormN ns) : rightFm (cutL ns) = rightFm ns := by
  unfold rightFm
  by_cases hl : ns.length ≤ 40
  · rw [cutL_few (by omega), runN_cut h, List.length_map]
  · rw [decide_eq_false (by rw [cutL_len]; omega), decide_eq_false (by omega), Bool.false_and, Bool.false_and]
theorem right_atoms : ∀ {ns : List Np} {i : Nat} {s s' : List Tr}, runN i s ns = some s' → ∀ n ∈ ns, n.1 = 1 → rightA n.2.1 = true := by
  intro ns
  induction ns with
  | nil => intro i s s' _ n hn; cases hn
  | cons m r ih =>
    intro i s s' h n hn h1
    simp only [runN] at h
    cases hs : stN i s m with
    | none => rw [hs] at h; cases h
    | some q =>
      rw [hs, Option.bind_some] at h
      rcases List.mem_cons.1 hn with rfl | hn
      · exact (stN_is h1 hs).1
      · exact ih h n hn h1
theorem cut_same {ns : List Np} (h : FormN ns) (hr : rightFm ns = true) : cutL ns = ns := by
  obtain ⟨hl, d, _, ht⟩ := rightFm_iff.1 hr
  rw [cutL_few (by omega)]
  refine map_same (fun n hn => ?_)
  unfold cutNd
  rcases h n hn with h1 | h1
  · rw [cutA_yes (right_atoms ht n hn h1)]
  · rw [h1, cutA_none, ← h1]
section
variable {ks : List Kt} {ns : List Np} {p : Nat}
theorem closeF_nil : closeF ks [] ns p = .ok ([], ns, p) := rfl
theorem closeF_word {a j : Int} {r : List Opn} (h : kTwo ks p = some j) : closeF ks ((0, a) :: r) ns p = .ok ((j, (ns.length : Int) - 1) :: r, ns, p + 1) := by
  unfold closeF; rw [if_pos rfl, h]
theorem closeF_bad {a : Int} {r : List Opn} (h : kTwo ks p = none) : closeF ks ((0, a) :: r) ns p = .error p := by
  unfold closeF; rw [if_pos rfl, h]
theorem closeF_two {k a : Int} {r : List Opn} (hk : twoK k = true) (h : ks[p]? = some (5, [41])) : closeF ks ((k, a) :: r) ns p = closeF ks r (ns ++ [(k, noA, a, (ns.length : Int) - 1)]) (p + 1) := by
  conv => lhs; unfold closeF
  rw [if_neg (two_ne hk).2, if_pos hk, if_pos h]
theorem closeF_none {k a : Int} {r : List Opn} (hk : twoK k = true) (h : ks[p]? ≠ some (5, [41])) : closeF ks ((k, a) :: r) ns p = .error p := by
  unfold closeF
  rw [if_neg (two_ne hk).2, if_pos hk, if_neg h]
theorem closeF_one {k a : Int} {r : List Opn} (h0 : k ≠ 0) (hk : twoK k = false) : closeF ks ((k, a) :: r) ns p = closeF ks r (ns ++ [(k, noA, (ns.length : Int) - 1, 0)]) p := by
  conv => lhs; unfold closeF
  rw [if_neg h0, if_neg (by rw [hk]; decide)]
end
/-- What closing leaves. -/
theorem closeF_form {ks : List Kt} : ∀ {st : List Opn} {ns : List Np} {p : Nat} {x : List Opn × List Np × Nat}, FormN ns → PlaceN st ns → 1 ≤ ns.length → closeF ks st ns p = .ok x → FormN x.2.1 ∧ PlaceN x.1 x.2.1 ∧ 1 ≤ x.2.1.length ∧ x.1.length ≤ st.length := by
  intro st
  induction st with
  | nil => intro ns p x h1 h2 h3 h; cases h; exact ⟨h1, h2, h3, Nat.le_refl _⟩
  | cons t r ih =>
    intro ns p x h1 h2 h3 h
    obtain ⟨k, a⟩ := t
    have hl : (ns ++ [(k, noA, a, (ns.length : Int) - 1)] : List Np).length = ns.length + 1 := by simp
    unfold closeF at h
    split at h
    · cases ht : kTwo ks p with
      | none => rw [ht] at h; cases h
      | some j =>
        rw [ht] at h
        cases h
        exact ⟨h1, h2.tail.cons (by simp only; omega) (by simp only; omega), h3, Nat.le_refl _⟩
    · split at h
      · split at h
        · obtain ⟨i1, i2, i3, i4⟩ := ih (h1.add (Or.inr rfl)) (h2.tail.add _) (by rw [List.length_append]; omega) h
          exact ⟨i1, i2, i3, by simp only [List.length_cons]; omega⟩
        · cases h
      · obtain ⟨i1, i2, i3, i4⟩ := ih (h1.add (Or.inr rfl)) (h2.tail.add _) (by rw [List.length_append]; omega) h
        exact ⟨i1, i2, i3, by simp only [List.length_cons]; omega⟩
theorem formF_formN {ks : List Kt} : ∀ {m : Nat} {st : List Opn} {ns : List Np} {p : Nat} {x : List Np × Nat}, FormN ns → PlaceN st ns → formF ks m st ns p = .ok x → FormN x.1 := by
  intro m
  induction m with
  | zero => intro st ns p x _ _ h; cases h
  | succ m ih =>
    intro st ns p x h1 h2 h
    cases ho : kOpen ks p with
    | some k =>
      rw [formF_open ho] at h
      exact ih h1 (h2.cons (Int.le_refl 0) (by simp)) h
    | none =>
      cases hr : readAt (ks.drop p) p with
      | error e => rw [formF_bad ho hr] at h; cases h
      | ok y =>
        rw [formF_atom ho hr] at h
        unfold finF at h
        cases hc : closeF ks st (ns ++ [(1, y.1, 0, 0)]) y.2 with
        | error e => rw [hc] at h; cases h
        | ok z =>
          obtain ⟨i1, i2, i3, i4⟩ := closeF_form (h1.add (Or.inl rfl)) (h2.add _) (by simp) hc
          obtain ⟨st', ns', q⟩ := z
          rw [hc] at h
          cases st' with
          | nil => cases h; exact i1
          | cons t st' => exact ih i1 i2 h
end Go.Proofs.YtcjnhhbcleljmaaGreatDoor.V
namespace Go.Proofs.YtcjnhhbcleljmaaGreatDoor.V

theorem cutA_right (a : At) : rightA (cutA a) = rightA a := by
  cases h : rightA a with
  | true => rw [cutA_yes h, h]
  | false => rw [cutA_no (by rw [h]; decide), noA_wrong]
/-- What the program's reader keeps of a pattern. -/
def cutP (x : Pp) : Pp := (x.1, cutA x.2.1, cutL x.2.2)
theorem cutP_right {x : Pp} (h : FormN x.2.2) : rightP (cutP x) = rightP x := by
  unfold rightP cutP
  simp only
  rw [cutA_right, cut_right h]
theorem cutP_same {x : Pp} (h : FormN x.2.2) (hr : rightP x = true) : cutP x = x := by
  obtain ⟨_, h2, h3⟩ := rightP_iff.1 hr
  unfold cutP
  rw [cutA_yes h2, cut_same h h3]
theorem pat_facts {ks : List Kt} {p : Nat} {x : Pp × Nat} (hf : patF ks p = .ok x) : FormN x.1.2.2 ∧ nameB x.1.1 = true := by
  unfold patF at hf
  split at hf
  case isFalse => cases hf
  split at hf
  · cases hf
  rename_i t ht
  split at hf
  case isFalse => cases hf
  rename_i hn
  split at hf
  case isFalse => cases hf
  cases ha : readAt (ks.drop (p + 3)) (p + 3) with
  | error e => rw [ha] at hf; cases hf
  | ok a =>
    rw [ha] at hf
    simp only at hf
    split at hf
    case isFalse => cases hf
    cases hx : formF ks (ks.length + 1 - (a.2 + 1)) [] [] (a.2 + 1) with
    | error e => rw [hx] at hf; cases hf
    | ok z =>
      rw [hx] at hf
      simp only at hf
      split at hf
      case isFalse => cases hf
      cases hf
      refine ⟨formF_formN (fun t h => by cases h) (fun t h => by cases h) hx, ?_⟩
      obtain ⟨u, h0, _, h1⟩ := nameK_yes hn
      rw [ht] at h0
      cases h0
      exact h1
end Go.Proofs.YtcjnhhbcleljmaaGreatDoor.V
namespace Go.Proofs.YtcjnhhbcleljmaaGreatDoor.V

theorem atomK_few {a : At} (h : rightA a = true) : (atomK a).length ≤ 13 := by
  unfold rightA at h
  unfold atomK
  cases hx : a.2 with
  | nil => simp
  | cons t r =>
    rw [hx] at h
    simp only [Bool.and_eq_true, decide_eq_true_eq] at h
    have := termsK_len (t :: r)
    simp only [List.length_cons] at this h ⊢
    omega
theorem formK_few {o d : Nat} {l : List Np} (h : Tree o l d) : (formK o l).length ≤ 13 * l.length := by
  refine tree_ind (P := fun o l _ => (formK o l).length ≤ 13 * l.length) ?_ ?_ ?_ h
  · intro o n h1 ha hA hB
    rw [formK_leaf h1]
    have := atomK_few ha
    simpa using this
  · intro o x d n hx h1 ha hA hB ih
    rw [formK_one hx h1 hA]
    simp only [List.length_append, List.length_cons, List.length_nil]
    omega
  · intro o x y e f n hx hy h1 ha hA hB ix iy
    rw [formK_two hx hy h1 hA hB]
    simp only [List.length_append, List.length_cons, List.length_nil]
    omega
theorem formK_fewR {l : List Np} (h : rightFm l = true) : (formK 0 l).length ≤ 520 := by
  obtain ⟨hl, d, _, ht⟩ := rightFm_iff.1 h
  have := formK_few ht
  omega
theorem patK_few {p : Pp} (h : rightP p = true) : (patK p).length ≤ 600 := by
  obtain ⟨_, h2, h3⟩ := rightP_iff.1 h
  have a1 := atomK_few h2
  have a2 := formK_fewR h3
  unfold patK
  simp only [List.length_append, List.length_cons, List.length_nil]
  omega
/-- The text is a pattern's. -/
def isPat (l : List UInt8) (v : Pp) : Prop := ∃ us, lexA rightK l 0 = .ok us ∧ us.length ≤ 19999 ∧ readP (us.map kt) 0 = .ok (v, us.length)
/-- The text is a formula's. -/
def isForm (l : List UInt8) (v : List Np) : Prop := ∃ us, lexA rightK l 0 = .ok us ∧ us.length ≤ 19999 ∧ readF (us.map kt) 0 = .ok (v, us.length)
theorem pat_is {v : Pp} (h : rightP v = true) : isPat (textP v) v := by
  obtain ⟨us, h1, h2⟩ := lex_pat h 0
  have hl : us.length = (patK v).length := by rw [← h2, List.length_map]
  have := patK_few h
  refine ⟨us, h1, by omega, ?_⟩
  rw [h2, hl]
  exact readP_text h
theorem form_is {v : List Np} (h : rightFm v = true) : isForm (textN 0 v) v := by
  obtain ⟨us, h1, h2⟩ := lex_form h 0
  have hl : us.length = (formK 0 v).length := by rw [← h2, List.length_map]
  have := formK_fewR h
  refine ⟨us, h1, by omega, ?_⟩
  rw [h2, hl]
  exact readF_text h
theorem form_short (p : Pp) : (textN 0 p.2.2).length ≤ (textP p).length := by
  unfold textP
  simp only [List.length_append, List.length_cons, List.length_nil]
  omega
end Go.Proofs.YtcjnhhbcleljmaaGreatDoor.V
namespace Go.Proofs.YtcjnhhbcleljmaaGreatDoor.V

/-- The nodes up to a place, from where that one's own begin, are a whole one. -/
theorem tree_at {l : List Np} {T : List Tr} (h : growL [] l = some T) {k : Nat} (hk : k < l.length) {t : Tr} (ht : T[k]? = some t) : t.1 ≤ k ∧ Tree t.1 ((l.take (k + 1)).drop t.1) t.2 := by
  have hT : growL [] (l.take (k + 1)) = some (T.take (k + 1)) := growL_take h (k + 1)
  have hlast : (T.take (k + 1)).getLast? = some t := by
    have hkT : k < T.length := (List.getElem?_eq_some_iff.1 ht).1
    rw [List.getLast?_eq_getElem?, List.length_take, show min (k + 1) T.length - 1 = k by omega, List.getElem?_take_of_lt (by omega)]
    exact ht
  obtain ⟨s, e, hs⟩ := growL_run (T := []) (s := []) rfl hT
  obtain ⟨r, rfl, hlt, hr⟩ := stk_top hs hlast
  have e' : runN 0 [] (l.take (k + 1)) = some (t :: r) := e
  obtain ⟨x, y, hxy, h1, hx, hy⟩ := forest_of (l.take (k + 1)).length (Nat.le_refl _) e'
  have hp := tree_pos hy
  have hl : (l.take (k + 1)).length = x.length + y.length := by rw [hxy, List.length_append]
  rw [List.length_take] at hl
  rw [Nat.zero_add] at h1
  refine ⟨by omega, ?_⟩
  rw [hxy, h1, List.drop_left, ← h1]
  exact hy
/-- A node's places told from place f on. -/
def shN (f : Nat) (n : Np) : Np := (n.1, n.2.1, (if n.1 = 1 then n.2.2.1 else n.2.2.1 - f), (if twoK n.1 = true then n.2.2.2 - f else n.2.2.2))
theorem shN_A {f : Nat} {n : Np} (h : n.1 ≠ 1) : (shN f n).2.2.1 = n.2.2.1 - f := if_neg h
theorem shN_A1 {f : Nat} {n : Np} (h : n.1 = 1) : (shN f n).2.2.1 = n.2.2.1 := if_pos h
theorem shN_B {f : Nat} {n : Np} (h : twoK n.1 = true) : (shN f n).2.2.2 = n.2.2.2 - f := if_pos h
theorem shN_B1 {f : Nat} {n : Np} (h : twoK n.1 = false) : (shN f n).2.2.2 = n.2.2.2 := if_neg (by rw [h]; decide)
theorem tree_shift {o d : Nat} {l : List Np} (h : Tree o l d) : ∀ f, f ≤ o → Tree (o - f) (l.map (shN f)) d := by
  refine tree_ind (P := fun o l d => ∀ f, f ≤ o → Tree (o - f) (l.map (shN f)) d) ?_ ?_ ?_ h
  · intro o n h1 a b c f hf
    exact tree_leaf (n := shN f n) h1 a (by rw [shN_A1 h1]; exact b) (by rw [shN_B1 (by rw [h1]; decide)]; exact c)
  · intro o x d n hx h1 a b c ih f hf
    rw [List.map_append]
    exact tree_one (n := shN f n) (ih f hf) h1 a (by rw [shN_A (one_ne h1).1, b, List.length_map]; omega) (by rw [shN_B1 (one_not_two h1)]; exact c)
  · intro o x y e g n hx hy h1 a b c ix iy f hf
    rw [List.map_append, List.map_append]
    have hy2 := iy f (by omega)
    rw [show o + x.length - f = o - f + (x.map (shN f)).length by rw [List.length_map]; omega] at hy2
    exact tree_two (n := shN f n) (ix f hf) hy2 h1 a (by rw [shN_A (two_ne h1).1, b, List.length_map]; omega) (by rw [shN_B h1, c, List.length_map, List.length_map]; omega)
/-- What is cut out is right. -/
theorem partF_right {l : List Np} (hr : rightFm l = true) {T : List Tr} (h : growL [] l = some T) {k : Nat} (hk : k < l.length) {t : Tr} (ht : T[k]? = some t) :
    t.1 ≤ k ∧ Tree 0 (((l.take (k + 1)).drop t.1).map (shN t.1)) t.2 ∧ t.2 ≤ 12 ∧ rightFm (((l.take (k + 1)).drop t.1).map (shN t.1)) = true := by
  obtain ⟨h1, h2⟩ := tree_at h hk ht
  have h3 := tree_shift h2 t.1 (Nat.le_refl _)
  rw [Nat.sub_self] at h3
  have h4 := right_all hr h t (List.mem_of_getElem? ht)
  refine ⟨h1, h3, h4, rightFm_iff.2 ⟨?_, t.2, h4, h3⟩⟩
  have := (rightFm_iff.1 hr).1
  rw [List.length_map, List.length_drop, List.length_take]
  omega
/-- With a node on top: right just if neither bound is met. -/
theorem topF_right {l : List Np} {d : Nat} (h : Tree 0 l d) (h1 : 1 ≤ l.length) (hl : l.length ≤ 40) (hd : d ≤ 12) {k : Int} (hk : oneK k = true) : rightFm (l ++ [(k, noA, (l.length : Int) - 1, 0)]) = decide (l.length < 40 ∧ d < 12) := by
  have ht : Tree 0 (l ++ [(k, noA, (l.length : Int) - 1, 0)]) (d + 1) := tree_one h hk rfl (by simp) rfl
  by_cases hb : l.length < 40 ∧ d < 12
  · rw [decide_eq_true hb]
    exact rightFm_iff.2 ⟨by rw [List.length_append, List.length_singleton]; omega, d + 1, by omega, ht⟩
  · rw [decide_eq_false hb, ← Bool.not_eq_true]
    intro hr
    obtain ⟨⟨_, g1⟩, d', hd', ht'⟩ := rightFm_iff.1 hr
    rw [List.length_append, List.length_singleton] at g1
    have e : some [((0, d + 1) : Tr)] = some [(0, d')] := ht.symm.trans ht'
    simp only [Option.some.injEq, List.cons.injEq, Prod.mk.injEq, and_true, true_and] at e
    omega
theorem topF_text {l : List Np} {d : Nat} (h : Tree 0 l d) {k : Int} (hk : oneK k = true) : textN 0 (l ++ [(k, noA, (l.length : Int) - 1, 0)]) = wordN k ++ 32 :: textN 0 l := textN_one h hk (by simp)
/-- The greatest of some. -/
def maxL (l : List Nat) : Nat := l.foldl max 0
theorem maxL_snoc (l : List Nat) (x : Nat) : maxL (l ++ [x]) = max (maxL l) x := by unfold maxL; rw [List.foldl_append]; rfl
theorem foldl_max_le : ∀ (l : List Nat) (a d : Nat), a ≤ d → (∀ t ∈ l, t ≤ d) → l.foldl max a ≤ d := by
  intro l
  induction l with
  | nil => intro a d h _; exact h
  | cons x l ih => intro a d h hl; exact ih (max a x) d (Nat.max_le.2 ⟨h, hl x (by simp)⟩) (fun t ht => hl t (by simp [ht]))
theorem foldl_max_ge : ∀ (l : List Nat) (a : Nat), a ≤ l.foldl max a ∧ ∀ t ∈ l, t ≤ l.foldl max a := by
  intro l
  induction l with
  | nil => intro a; exact ⟨Nat.le_refl _, fun t h => by cases h⟩
  | cons x l ih =>
    intro a
    obtain ⟨h1, h2⟩ := ih (max a x)
    refine ⟨Nat.le_trans (Nat.le_max_left a x) h1, fun t ht => ?_⟩
    rcases List.mem_cons.1 ht with rfl | ht
    · exact Nat.le_trans (Nat.le_max_right a t) h1
    · exact h2 t ht
theorem maxL_top {l : List Nat} {d : Nat} (h : ∀ t ∈ l, t ≤ d) (hd : d ∈ l) : maxL l = d :=
  Nat.le_antisymm (foldl_max_le l 0 d (Nat.zero_le _) h) ((foldl_max_ge l 0).2 d hd)
/-- How many are in one another: the greatest of all is the last one's. -/
theorem deep_top {l : List Np} {d : Nat} (h : Tree 0 l d) : ∃ T, growL [] l = some T ∧ maxL (T.map Prod.snd) = d := by
  obtain ⟨mid, hm, hb⟩ := growL_tree h [] rfl
  refine ⟨_, hm, maxL_top ?_ ?_⟩
  · intro t ht
    obtain ⟨u, hu, rfl⟩ := List.mem_map.1 ht
    simp only [List.nil_append] at hu
    rcases List.mem_append.1 hu with hu | hu
    · exact (hb u hu).2
    · rw [List.mem_singleton.1 hu]; exact Nat.le_refl _
  · simp
end Go.Proofs.YtcjnhhbcleljmaaGreatDoor.V
namespace Go.Proofs.YtcjnhhbcleljmaaGreatDoor.V

abbrev isN (x : At) : Np := (1, x, 0, 0)
abbrev noN (k A B : Int) : Np := (k, noA, A, B)
section
variable {x : At} (hx : rightA x = true)
include hx
theorem right_ne : x ≠ noA := by
  rintro rfl
  rw [noA_wrong] at hx
  cases hx
theorem good_right : rightFm [isN x, noN 2 0 0, isN x, noN 8 1 2] = true := by simp [rightFm, runN, stN, hx, oneK, twoK]
theorem bad_0 : rightFm [isN x, isN x] = false := by simp [rightFm, runN, stN, hx]
theorem bad_1 : rightFm [isN x, noN 3 0 0] = false := by simp [rightFm, runN, stN, hx, oneK, twoK]
omit hx in
theorem bad_2 : rightFm [noN 2 1 0, isN x] = false := by simp [rightFm, runN, stN, oneK]
theorem bad_3 : rightFm [isN x, isN x, noN 3 1 0] = false := by simp [rightFm, runN, stN, hx, oneK, twoK]
theorem bad_4 : rightFm [isN x, (2, x, 0, 0)] = false := by simp [rightFm, runN, stN, hx, oneK, right_ne hx]
theorem bad_5 : rightFm [isN x, noN 2 0 1] = false := by simp [rightFm, runN, stN, hx, oneK]
theorem bad_6 : rightFm [isN x, isN x, noN 6 1 0] = false := by simp [rightFm, runN, stN, hx, oneK]
theorem bad_7 : rightFm [isN x, noN 9 0 0] = false := by simp [rightFm, runN, stN, hx, oneK, twoK]
theorem bad_8 : rightFm [(1, x, 1, 0)] = false := by simp [rightFm, runN, stN, hx]
theorem bad_9 : rightFm [isN x, isN x, isN x, noN 4 0 2] = false := by simp [rightFm, runN, stN, hx, oneK, twoK]
end
theorem last_from {l : List Np} (h : rightFm l = true) : ∃ T d, growL [] l = some T ∧ T[l.length - 1]? = some (0, d) := by
  obtain ⟨_, T, d, hT, hl, _⟩ := right_grow.1 h
  have := growL_len hT
  rw [List.getLast?_eq_getElem?, this] at hl
  exact ⟨T, d, hT, hl⟩
end Go.Proofs.YtcjnhhbcleljmaaGreatDoor.V
