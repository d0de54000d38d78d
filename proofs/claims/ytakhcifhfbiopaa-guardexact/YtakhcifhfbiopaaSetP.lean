/- Rising lists in plain words, over any one order: what is put, dropped, made of a list; two rising lists with the same members are one. No program in it. -/
import Derived.Test.YtakhcifhfbiopaaFactP
namespace Go.Proofs.Ytakhcifhfbiopaa.V

section
variable {α : Type} {f : α → α → Int}

/-- Each ahead of all behind it. -/
def Rise (f : α → α → Int) (l : List α) : Prop := l.Pairwise (fun a b => f a b = -1)
/-- .. by neighbours, as a program asks it. -/
def riseB (f : α → α → Int) : List α → Bool
  | [] => true
  | [_] => true
  | a :: b :: r => decide (f a b < 0) && riseB f (b :: r)

theorem lt_neg (O : Ord3 f) {a b : α} : f a b < 0 ↔ f a b = -1 := by
  have := O.tri a b
  omega
theorem self_zero (O : Ord3 f) (a : α) : f a a = 0 := (O.zero a a).2 rfl

theorem rise_of_B (O : Ord3 f) : ∀ {l : List α}, riseB f l = true → Rise f l
  | [], _ => List.Pairwise.nil
  | [_], _ => by simp [Rise]
  | a :: b :: r, h => by
    simp only [riseB, Bool.and_eq_true, decide_eq_true_eq] at h
    have hr := rise_of_B O (l := b :: r) h.2
    have hab := (lt_neg O).1 h.1
    refine List.Pairwise.cons (fun y hy => ?_) hr
    rcases List.mem_cons.1 hy with rfl | hy
    · exact hab
    · exact O.trans a b y hab ((List.pairwise_cons.1 hr).1 y hy)
theorem B_of_rise : ∀ {l : List α}, Rise f l → riseB f l = true
  | [], _ => rfl
  | [_], _ => rfl
  | a :: b :: r, h => by
    have h' := List.pairwise_cons.1 h
    simp only [riseB, Bool.and_eq_true, decide_eq_true_eq]
    refine ⟨?_, B_of_rise h'.2⟩
    have := h'.1 b (by simp)
    omega

/-- Two rising lists with the same members are one. -/
theorem rise_ext (O : Ord3 f) : ∀ {l m : List α}, Rise f l → Rise f m → (∀ x, x ∈ l ↔ x ∈ m) → l = m
  | [], [], _, _, _ => rfl
  | [], b :: m, _, _, h => by have := (h b).2 (by simp); simp at this
  | a :: l, [], _, _, h => by have := (h a).1 (by simp); simp at this
  | a :: l, b :: m, hl, hm, h => by
    have hl' := List.pairwise_cons.1 hl
    have hm' := List.pairwise_cons.1 hm
    have hab : a = b := by
      rcases List.mem_cons.1 ((h a).1 (by simp)) with e | ha
      · exact e
      · rcases List.mem_cons.1 ((h b).2 (by simp)) with e | hb
        · exact e.symm
        · have h1 := hm'.1 a ha
          have h2 := hl'.1 b hb
          have := O.anti a b
          omega
    subst hab
    congr 1
    refine rise_ext O hl'.2 hm'.2 (fun x => ?_)
    have z := self_zero O a
    constructor
    · intro hx
      rcases List.mem_cons.1 ((h x).1 (List.mem_cons_of_mem _ hx)) with e | hx'
      · subst e; have := hl'.1 x hx; omega
      · exact hx'
    · intro hx
      rcases List.mem_cons.1 ((h x).2 (List.mem_cons_of_mem _ hx)) with e | hx'
      · subst e; have := hm'.1 x hx; omega
      · exact hx'

/-- Into its place. -/
def insL (f : α → α → Int) (x : α) : List α → List α
  | [] => [x]
  | y :: r => if f x y < 0 then x :: y :: r else y :: insL f x r
theorem mem_ins (x y : α) : ∀ l : List α, y ∈ insL f x l ↔ y = x ∨ y ∈ l
  | [] => by simp [insL]
  | z :: r => by
    unfold insL
    split
    · simp
    · rw [List.mem_cons, mem_ins x y r, List.mem_cons]
      constructor
      · rintro (h | h | h)
        · exact Or.inr (Or.inl h)
        · exact Or.inl h
        · exact Or.inr (Or.inr h)
      · rintro (h | h | h)
        · exact Or.inr (Or.inl h)
        · exact Or.inl h
        · exact Or.inr (Or.inr h)
theorem rise_ins (O : Ord3 f) (x : α) : ∀ {l : List α}, Rise f l → x ∉ l → Rise f (insL f x l)
  | [], _, _ => by simp [insL, Rise]
  | y :: r, h, hx => by
    have h' := List.pairwise_cons.1 h
    unfold insL
    split
    · rename_i hlt
      have hxy := (lt_neg O).1 hlt
      refine List.Pairwise.cons (fun z hz => ?_) h
      rcases List.mem_cons.1 hz with rfl | hz
      · exact hxy
      · exact O.trans x y z hxy (h'.1 z hz)
    · rename_i hlt
      have hyx : f y x = -1 := by
        have h1 := O.tri x y
        have h2 := O.anti x y
        have h3 : f x y ≠ 0 := fun e => hx (by rw [(O.zero x y).1 e]; simp)
        omega
      refine List.Pairwise.cons (fun z hz => ?_) (rise_ins O x h'.2 (fun hm => hx (List.mem_cons_of_mem _ hm)))
      rcases (mem_ins x z r).1 hz with rfl | hz
      · exact hyx
      · exact h'.1 z hz
theorem len_ins (x : α) : ∀ l : List α, (insL f x l).length = l.length + 1
  | [] => rfl
  | y :: r => by
    unfold insL
    split
    · simp
    · simp [len_ins x r]

/-- A sorted list without neighbours that are the same is rising: what a sort and a squeeze leave. -/
theorem rise_sorted (O : Ord3 f) {l : List α} (h : l.Pairwise (fun a b => f a b ≤ 0)) (hn : l.Nodup) : Rise f l := by
  refine (List.Pairwise.and h hn).imp ?_
  rintro a b ⟨h1, h2⟩
  have h3 := O.tri a b
  have h4 : f a b ≠ 0 := fun e => h2 ((O.zero a b).1 e)
  omega
theorem rise_nodup (O : Ord3 f) {l : List α} (h : Rise f l) : l.Nodup := by
  refine List.Pairwise.imp ?_ h
  intro a b hab e
  subst e
  have := self_zero O a
  omega
variable [DecidableEq α]
/-- With one. -/
def putL (f : α → α → Int) (l : List α) (x : α) : List α := if x ∈ l then l else insL f x l
theorem mem_put (x y : α) (l : List α) : y ∈ putL f l x ↔ y = x ∨ y ∈ l := by
  unfold putL
  split
  · rename_i h
    constructor
    · exact Or.inr
    · rintro (rfl | h')
      · exact h
      · exact h'
  · exact mem_ins x y l
theorem rise_put (O : Ord3 f) {x : α} {l : List α} (h : Rise f l) : Rise f (putL f l x) := by
  unfold putL
  split
  · exact h
  · rename_i hx; exact rise_ins O x h hx
/-- All of a list, put one by one. -/
def ofL (f : α → α → Int) (l : List α) : List α := l.foldl (putL f) []
theorem foldl_put (O : Ord3 f) (l : List α) : ∀ acc : List α, Rise f acc → Rise f (l.foldl (putL f) acc) ∧ ∀ y, y ∈ l.foldl (putL f) acc ↔ y ∈ acc ∨ y ∈ l := by
  induction l with
  | nil => intro acc h; exact ⟨h, fun y => by simp⟩
  | cons x r ih =>
    intro acc h
    obtain ⟨h1, h2⟩ := ih (putL f acc x) (rise_put O h)
    refine ⟨h1, fun y => ?_⟩
    rw [List.foldl_cons, h2, mem_put, List.mem_cons]
    constructor
    · rintro ((h | h) | h)
      · exact Or.inr (Or.inl h)
      · exact Or.inl h
      · exact Or.inr (Or.inr h)
    · rintro (h | h | h)
      · exact Or.inl (Or.inr h)
      · exact Or.inl (Or.inl h)
      · exact Or.inr h
theorem rise_of (O : Ord3 f) (l : List α) : Rise f (ofL f l) := (foldl_put O l [] List.Pairwise.nil).1
theorem mem_of (O : Ord3 f) (l : List α) (y : α) : y ∈ ofL f l ↔ y ∈ l := by
  have := (foldl_put O l [] List.Pairwise.nil).2 y
  simpa [ofL] using this
/-- Whatever the order, it is one set. -/
theorem of_same (O : Ord3 f) {l m : List α} (h : ∀ x, x ∈ l ↔ x ∈ m) : ofL f l = ofL f m :=
  rise_ext O (rise_of O l) (rise_of O m) (fun x => by rw [mem_of O, mem_of O]; exact h x)
theorem of_rise (O : Ord3 f) {l : List α} (h : Rise f l) : ofL f l = l :=
  rise_ext O (rise_of O l) h (fun x => mem_of O l x)
/-- Whatever rises with just the members of a list is the set of it. -/
theorem is_of (O : Ord3 f) {l m : List α} (h : Rise f m) (hm : ∀ x, x ∈ m ↔ x ∈ l) : m = ofL f l :=
  rise_ext O h (rise_of O l) (fun x => by rw [mem_of O]; exact hm x)
/-- Without one. -/
def dropL (l : List α) (x : α) : List α := l.filter (fun y => decide (y ≠ x))
theorem mem_drop' (x y : α) (l : List α) : y ∈ dropL l x ↔ y ∈ l ∧ y ≠ x := by simp [dropL]
theorem rise_drop {x : α} {l : List α} (h : Rise f l) : Rise f (dropL l x) := h.filter _
theorem drop_put (O : Ord3 f) {x : α} {l : List α} (h : Rise f l) (hx : x ∉ l) : dropL (putL f l x) x = l := by
  refine rise_ext O (rise_drop (rise_put O h)) h (fun y => ?_)
  rw [mem_drop', mem_put]
  constructor
  · rintro ⟨h1 | h1, h2⟩
    · exact absurd h1 h2
    · exact h1
  · intro hy
    exact ⟨Or.inr hy, fun e => hx (e ▸ hy)⟩
theorem drop_none {x : α} {l : List α} (hx : x ∉ l) : dropL l x = l := by
  unfold dropL
  rw [List.filter_eq_self]
  intro y hy
  simp
  intro e
  exact hx (e ▸ hy)
end
end Go.Proofs.Ytakhcifhfbiopaa.V
