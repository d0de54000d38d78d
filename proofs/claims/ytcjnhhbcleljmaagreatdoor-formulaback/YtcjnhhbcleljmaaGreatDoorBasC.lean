/- Joined: MatP NumA ExpP ExpA ExpQ ExpR. -/
import Derived.Test.YtcjnhhbcleljmaaGreatDoorBasA
import Derived.WalkKit
import Derived.Laws.OwnMore
import Derived.Lib.Builder
namespace Go.Proofs.YtcjnhhbcleljmaaGreatDoor.V

/-- A term is a variable (its name is not empty) with no value, or a value: it lies as a Bind does. -/
def zeroV : Vv := (0, 0, ⟨#[]⟩)
def rightT (t : Bb) : Bool := if t.1.size = 0 then rightVv t.2 else varB t.1.data.toList && decide (t.2 = zeroV)

/-- What a list of terms, matched with values, puts; one by one. -/
def matL : List Bb → List Vv → List Bb → Option (List Bb)
  | [], [], l => some l
  | t :: ts, v :: vs, l =>
    if t.1.size = 0 then (if t.2 = v then matL ts vs l else none)
    else if (bothR l [(t.1, v)]).2 = true then matL ts vs (bothR l [(t.1, v)]).1 else none
  | _, _, _ => none
/-- .. and all at once: the values that its values meet, and what its variables get. -/
def same : List Bb → List Vv → Prop
  | [], [] => True
  | t :: ts, v :: vs => (t.1.size = 0 → t.2 = v) ∧ same ts vs
  | _, _ => False
def adds : List Bb → List Vv → List Bb
  | t :: ts, v :: vs => if t.1.size = 0 then adds ts vs else (t.1, v) :: adds ts vs
  | _, _ => []

theorem same_len : ∀ {ts : List Bb} {vs : List Vv}, same ts vs → ts.length = vs.length
  | [], [], _ => rfl
  | [], _ :: _, h => h.elim
  | _ :: _, [], h => h.elim
  | _ :: ts, _ :: vs, h => by simp [same_len h.2]
theorem mem_adds : ∀ {ts : List Bb} {vs : List Vv} {x : Bb}, x ∈ adds ts vs ↔ ∃ i, ∃ (h : i < ts.length) (k : i < vs.length), ts[i].1.size ≠ 0 ∧ x = (ts[i].1, vs[i])
  | [], vs, x => by simp [adds]
  | t :: ts, [], x => by simp [adds]
  | t :: ts, v :: vs, x => by
    have ih := mem_adds (ts := ts) (vs := vs) (x := x)
    constructor
    · intro h
      unfold adds at h
      split at h
      · obtain ⟨i, h1, h2, h3, h4⟩ := ih.1 h
        exact ⟨i + 1, by simpa using h1, by simpa using h2, by simpa using h3, by simpa using h4⟩
      · rename_i hz
        rcases List.mem_cons.1 h with h | h
        · exact ⟨0, by simp, by simp, by simpa using hz, by simpa using h⟩
        · obtain ⟨i, h1, h2, h3, h4⟩ := ih.1 h
          exact ⟨i + 1, by simpa using h1, by simpa using h2, by simpa using h3, by simpa using h4⟩
    · rintro ⟨i, h1, h2, h3, h4⟩
      unfold adds
      match i, h1, h2, h3, h4 with
      | 0, _, _, h3, h4 =>
        simp only [List.getElem_cons_zero] at h3 h4
        rw [if_neg h3]
        exact List.mem_cons.2 (Or.inl h4)
      | i + 1, h1, h2, h3, h4 =>
        have := ih.2 ⟨i, by simpa using h1, by simpa using h2, by simpa using h3, by simpa using h4⟩
        split
        · exact this
        · exact List.mem_cons.2 (Or.inr this)

theorem un_cons (l a : List Bb) (x : Bb) : unL (unL l [x]) a = unL l (x :: a) := un_eq (rise_un _ _) (fun y => by
  rw [mem_un, mem_un, List.mem_cons, List.mem_singleton, or_assoc])
theorem un_sub {l a b : List Bb} (h : listB (unL l b) = true) (hs : ∀ x ∈ a, x ∈ b) : listB (unL l a) = true :=
  list_sub h (rise_un _ _) (fun _ hx => mem_un.2 ((mem_un.1 hx).imp id (hs _)))
theorem un_none {l : List Bb} (h : listB l = true) : unL l [] = l := un_eq (list_rise h) (by simp)

/-- One by one is all at once. -/
theorem mat_eq : ∀ (ts : List Bb) (vs : List Vv) (l : List Bb), listB l = true → (∀ t ∈ ts, t.1.size ≠ 0 → varB t.1.data.toList = true) → (∀ v ∈ vs, rightVv v = true) →
    (∀ m, matL ts vs l = some m ↔ same ts vs ∧ listB (unL l (adds ts vs)) = true ∧ m = unL l (adds ts vs))
  | [], [], l, hl, _, _, m => by
    have e := un_none hl
    simp only [matL, same, adds, e, hl, Option.some.injEq, true_and]
    exact eq_comm
  | [], _ :: _, l, _, _, _, m => by simp [matL, same]
  | _ :: _, [], l, _, _, _, m => by simp [matL, same]
  | t :: ts, v :: vs, l, hl, ht, hv, m => by
    have ht' : ∀ u ∈ ts, u.1.size ≠ 0 → varB u.1.data.toList = true := fun u hu => ht u (by simp [hu])
    have hv' : ∀ u ∈ vs, rightVv u = true := fun u hu => hv u (by simp [hu])
    unfold matL adds
    by_cases hz : t.1.size = 0
    · rw [if_pos hz, if_pos hz]
      by_cases he : t.2 = v
      · rw [if_pos he, mat_eq ts vs l hl ht' hv' m]
        simp only [same, hz, he, forall_const, true_and]
      · rw [if_neg he]
        simp only [same, hz, forall_const, he, false_and, iff_false]
        exact fun h => by cases h
    · rw [if_neg hz, if_neg hz]
      have hr : listB [(t.1, v)] = true := by
        have h1 := ht t (by simp) hz
        have h2 := hv v (by simp)
        simp [listB, riseB, rightBd, h1, h2]
      by_cases hb : listB (unL l [(t.1, v)]) = true
      · rw [both_t hl hr hb]
        simp only [if_true]
        rw [mat_eq ts vs (unL l [(t.1, v)]) hb ht' hv' m, un_cons]
        simp only [same, hz, false_implies, true_and]
      · rw [both_f (fun h => hb h.2.2)]
        simp only [Bool.false_eq_true, if_false]
        constructor
        · intro h; cases h
        · rintro ⟨_, h, _⟩
          exact absurd (un_sub h (a := [(t.1, v)]) (fun x hx => by rw [List.mem_singleton.1 hx]; simp)) hb

section
variable {ts : List Bb} {vs : List Vv} {l m : List Bb}
/-- What is got behind a match: each variable has the value in its place. -/
theorem mat_get (hl : listB l = true) (ht : ∀ t ∈ ts, t.1.size ≠ 0 → varB t.1.data.toList = true) (hv : ∀ v ∈ vs, rightVv v = true) (h : matL ts vs l = some m) {i : Nat} (hi : i < ts.length) (hk : i < vs.length) (hz : ts[i].1.size ≠ 0) : getL m ts[i].1 = some vs[i] := by
  obtain ⟨_, h2, rfl⟩ := (mat_eq ts vs l hl ht hv m).1 h
  exact get_some h2 (mem_un.2 (Or.inr (mem_adds.2 ⟨i, hi, hk, hz, rfl⟩)))
theorem same_at : ∀ {ts : List Bb} {vs : List Vv}, same ts vs → ∀ {i : Nat} (hi : i < ts.length) (hk : i < vs.length), ts[i].1.size = 0 → ts[i].2 = vs[i]
  | _ :: ts, _ :: vs, h, 0, _, _, hz => h.1 (by simpa using hz)
  | _ :: ts, _ :: vs, h, i + 1, hi, hk, hz => by
    simpa using same_at h.2 (i := i) (by simpa using hi) (by simpa using hk) (by simpa using hz)
theorem same_of : ∀ {ts : List Bb} {vs : List Vv}, ts.length = vs.length → (∀ i (hi : i < ts.length) (hk : i < vs.length), ts[i].1.size = 0 → ts[i].2 = vs[i]) → same ts vs
  | [], [], _, _ => trivial
  | t :: ts, v :: vs, hl, h => ⟨fun hz => h 0 (by simp) (by simp) hz, same_of (by simpa using hl) (fun i hi hk hz => by
      exact h (i + 1) (by simpa using hi) (by simpa using hk) hz)⟩
  | [], _ :: _, hl, _ => by simp at hl
  | _ :: _, [], hl, _ => by simp at hl
theorem mat_list (hl : listB l = true) (ht : ∀ t ∈ ts, t.1.size ≠ 0 → varB t.1.data.toList = true) (hv : ∀ v ∈ vs, rightVv v = true) (h : matL ts vs l = some m) : listB m = true := by
  obtain ⟨_, h2, rfl⟩ := (mat_eq ts vs l hl ht hv m).1 h
  exact h2
/-- Matched again, with what came of it, it is as it was. -/
theorem mat_again (hl : listB l = true) (ht : ∀ t ∈ ts, t.1.size ≠ 0 → varB t.1.data.toList = true) (hv : ∀ v ∈ vs, rightVv v = true) (h : matL ts vs l = some m) : matL ts vs m = some m := by
  obtain ⟨h1, h2, rfl⟩ := (mat_eq ts vs l hl ht hv m).1 h
  have e : unL (unL l (adds ts vs)) (adds ts vs) = unL l (adds ts vs) := un_eq (rise_un _ _) (fun x => ⟨Or.inl, fun hx => by
    rcases hx with hx | hx
    · exact hx
    · exact mem_un.2 (Or.inr hx)⟩)
  refine (mat_eq ts vs _ h2 ht hv _).2 ⟨h1, by rw [e]; exact h2, e.symm⟩
/-- With what came of it, it matches no other values. -/
theorem mat_only (hl : listB l = true) (ht : ∀ t ∈ ts, t.1.size ≠ 0 → varB t.1.data.toList = true) (hv : ∀ v ∈ vs, rightVv v = true) (h : matL ts vs l = some m) {us : List Vv} (hu : ∀ v ∈ us, rightVv v = true) {k : List Bb} (hk : matL ts us m = some k) : us = vs := by
  have hm := mat_list hl ht hv h
  obtain ⟨h1, h2, rfl⟩ := (mat_eq ts vs l hl ht hv m).1 h
  obtain ⟨g1, g2, rfl⟩ := (mat_eq ts us _ hm ht hu k).1 hk
  have e1 := same_len h1
  have e2 := same_len g1
  refine List.ext_getElem (by omega) (fun i hi hj => ?_)
  by_cases hz : (ts[i]'(by omega)).1.size = 0
  · rw [← same_at h1 (by omega) hj hz, ← same_at g1 (by omega) hi hz]
  · have := list_one g2 (x := ((ts[i]'(by omega)).1, us[i])) (y := ((ts[i]'(by omega)).1, vs[i])) (mem_un.2 (Or.inr (mem_adds.2 ⟨i, by omega, hi, hz, rfl⟩))) (mem_un.2 (Or.inl (mem_un.2 (Or.inr (mem_adds.2 ⟨i, by omega, hj, hz, rfl⟩))))) rfl
    exact (Prod.mk.inj this).2
end

/-- The variables, in order, each once. -/
def withL (l : List ByteArray) (s : ByteArray) : List ByteArray := if s.size = 0 then l else if l.any (fun y => decide (y = s)) = true then l else l ++ [s]
def varsL (ts : List Bb) : List ByteArray := (ts.map Prod.fst).foldl withL []
theorem mem_with {l : List ByteArray} {s x : ByteArray} : x ∈ withL l s ↔ x ∈ l ∨ (s.size ≠ 0 ∧ x = s) := by
  unfold withL
  split
  · rename_i h; simp [h]
  · rename_i h
    split
    · rename_i hm
      have hm' : s ∈ l := by simpa using hm
      constructor
      · exact Or.inl
      · rintro (hx | ⟨_, rfl⟩)
        · exact hx
        · exact hm'
    · simp [h]
theorem nodup_with {l : List ByteArray} {s : ByteArray} (h : l.Nodup) : (withL l s).Nodup := by
  unfold withL
  split
  · exact h
  · split
    · exact h
    · rename_i hm
      rw [List.nodup_append]
      refine ⟨h, by simp, fun a ha b hb e => ?_⟩
      rw [List.mem_singleton.1 hb] at e
      exact hm (by simpa using e ▸ ha)
theorem fold_with : ∀ (ns l : List ByteArray), l.Nodup → (ns.foldl withL l).Nodup ∧ ∀ x, x ∈ ns.foldl withL l ↔ x ∈ l ∨ (x ∈ ns ∧ x.size ≠ 0)
  | [], l, h => ⟨h, by simp⟩
  | n :: ns, l, h => by
    obtain ⟨h1, h2⟩ := fold_with ns (withL l n) (nodup_with h)
    refine ⟨h1, fun x => ?_⟩
    simp only [List.foldl_cons]
    rw [h2 x, mem_with, List.mem_cons]
    constructor
    · rintro ((hx | ⟨hs, rfl⟩) | ⟨hx, hs⟩)
      · exact Or.inl hx
      · exact Or.inr ⟨Or.inl rfl, hs⟩
      · exact Or.inr ⟨Or.inr hx, hs⟩
    · rintro (hx | ⟨rfl | hx, hs⟩)
      · exact Or.inl (Or.inl hx)
      · exact Or.inl (Or.inr ⟨hs, rfl⟩)
      · exact Or.inr ⟨hx, hs⟩
theorem vars_nodup (ts : List Bb) : (varsL ts).Nodup := (fold_with _ [] List.nodup_nil).1
theorem mem_vars {ts : List Bb} {x : ByteArray} : x ∈ varsL ts ↔ (∃ t ∈ ts, t.1 = x) ∧ x.size ≠ 0 := by
  unfold varsL
  rw [(fold_with _ [] List.nodup_nil).2 x]
  simp
/-- As many values come of it as it has variables, where there were none. -/
theorem mat_count {ts : List Bb} {vs : List Vv} {m : List Bb} (ht : ∀ t ∈ ts, t.1.size ≠ 0 → varB t.1.data.toList = true) (hv : ∀ v ∈ vs, rightVv v = true) (h : matL ts vs [] = some m) : m.length = (varsL ts).length := by
  have hl : listB [] = true := rfl
  have hm := mat_list hl ht hv h
  obtain ⟨h1, h2, rfl⟩ := (mat_eq ts vs [] hl ht hv m).1 h
  have e := same_len h1
  have hn : ((unL [] (adds ts vs)).map Prod.fst).Nodup := by
    rw [List.Nodup, List.pairwise_map]
    refine (list_pair hm).imp (fun {a b} hab e => ?_)
    have := byV_zero.2 e
    omega
  have hs : ∀ x, x ∈ (unL [] (adds ts vs)).map Prod.fst ↔ x ∈ varsL ts := fun x => by
    rw [List.mem_map, mem_vars]
    constructor
    · rintro ⟨y, hy, rfl⟩
      rcases mem_un.1 hy with hy | hy
      · cases hy
      · obtain ⟨i, hi, hk, hz, rfl⟩ := mem_adds.1 hy
        exact ⟨⟨ts[i], List.getElem_mem hi, rfl⟩, hz⟩
    · rintro ⟨⟨t, htm, rfl⟩, hz⟩
      obtain ⟨i, hi, rfl⟩ := List.getElem_of_mem htm
      exact ⟨(ts[i].1, vs[i]'(by omega)), mem_un.2 (Or.inr (mem_adds.2 ⟨i, hi, by omega, hz, rfl⟩)), rfl⟩
  have a1 := List.Nodup.length_le_of_subset hn (fun x hx => (hs x).1 hx)
  have a2 := List.Nodup.length_le_of_subset (vars_nodup ts) (fun x hx => (hs x).2 hx)
  simp only [List.length_map] at a1 a2
  omega

/-- The ground: each variable's value in its place; none, if one has none. -/
def groundL (l : List Bb) : List Bb → Option (List Vv)
  | [] => some []
  | t :: ts => if t.1.size = 0 then (groundL l ts).map (t.2 :: ·) else match getL l t.1 with
    | some v => (groundL l ts).map (v :: ·)
    | none => none
theorem ground_mat {m : List Bb} : ∀ {ts : List Bb} {vs : List Vv}, same ts vs → (∀ i (_ : i < ts.length) (_ : i < vs.length), ts[i].1.size ≠ 0 → getL m ts[i].1 = some vs[i]) → groundL m ts = some vs
  | [], [], _, _ => rfl
  | [], _ :: _, h, _ => h.elim
  | _ :: _, [], h, _ => h.elim
  | t :: ts, v :: vs, h, hg => by
    have ih := ground_mat (m := m) h.2 (fun i hi hk hz => by
      exact hg (i + 1) (by simpa using hi) (by simpa using hk) hz)
    unfold groundL
    by_cases hz : t.1.size = 0
    · rw [if_pos hz, ih, h.1 hz]; rfl
    · have := hg 0 (by simp) (by simp) hz
      simp only [List.getElem_cons_zero] at this
      rw [if_neg hz, this, ih]; rfl
theorem mat_ground {ts : List Bb} {vs : List Vv} {l m : List Bb} (hl : listB l = true) (ht : ∀ t ∈ ts, t.1.size ≠ 0 → varB t.1.data.toList = true) (hv : ∀ v ∈ vs, rightVv v = true) (h : matL ts vs l = some m) : groundL m ts = some vs :=
  ground_mat ((mat_eq ts vs l hl ht hv m).1 h).1 (fun _ hi hk hz => mat_get hl ht hv h hi hk hz)
end Go.Proofs.YtcjnhhbcleljmaaGreatDoor.V
namespace Go.Proofs.YtcjnhhbcleljmaaGreatDoor.N

theorem hide {p : Prop} (h : p) : RowKit.Hid p := h
theorem unhide {p : Prop} (h : RowKit.Hid p) : p := h.out

def inB (n : Int) : Bool := decide (-4611686018427387904 ≤ n ∧ n ≤ 4611686018427387904)
def res (r : Int) : Int × Int := if -4611686018427387904 ≤ r ∧ r ≤ 4611686018427387904 then (r, 0) else (0, 4)
def doL (k a b : Int) : Int × Int :=
  if k = 3 ∨ k = 4 ∨ k = 5 then
    if inB a = true ∧ inB b = true then res (if k = 3 then a + b else if k = 4 then a - b else a * b) else (0, 4)
  else (0, 3)
def siz (n : Int) : Int := if 0 ≤ n then n else -n

theorem inB_t {n : Int} (a : -4611686018427387904 ≤ n) (b : n ≤ 4611686018427387904) : inB n = true := decide_eq_true ⟨a, b⟩
theorem inB_f {n : Int} (h : ¬ (-4611686018427387904 ≤ n ∧ n ≤ 4611686018427387904)) : inB n = false := decide_eq_false h
theorem inB_p {n : Int} (h : inB n = true) : -4611686018427387904 ≤ n ∧ n ≤ 4611686018427387904 := of_decide_eq_true h
theorem inB_n {n : Int} (h : inB n = false) : ¬ (-4611686018427387904 ≤ n ∧ n ≤ 4611686018427387904) := of_decide_eq_false h
theorem res_t {r : Int} (a : -4611686018427387904 ≤ r) (b : r ≤ 4611686018427387904) : res r = (r, 0) := if_pos ⟨a, b⟩
theorem res_f {r : Int} (h : ¬ (-4611686018427387904 ≤ r ∧ r ≤ 4611686018427387904)) : res r = (0, 4) := if_neg h
theorem doL_kind {k : Int} (a b : Int) (h : ¬ (k = 3 ∨ k = 4 ∨ k = 5)) : doL k a b = (0, 3) := if_neg h
theorem doL_out {k a b : Int} (h : k = 3 ∨ k = 4 ∨ k = 5) (hb : inB a = false ∨ inB b = false) : doL k a b = (0, 4) := by
  unfold doL; rw [if_pos h, if_neg]; rintro ⟨p, q⟩; rcases hb with hb | hb <;> simp_all
theorem doL_add {a b : Int} (ha : inB a = true) (hb : inB b = true) : doL 3 a b = res (a + b) := by
  unfold doL; rw [if_pos (Or.inl rfl), if_pos ⟨ha, hb⟩, if_pos rfl]
theorem doL_sub {a b : Int} (ha : inB a = true) (hb : inB b = true) : doL 4 a b = res (a - b) := by
  unfold doL; rw [if_pos (Or.inr (Or.inl rfl)), if_pos ⟨ha, hb⟩, if_neg (by decide), if_pos rfl]
theorem doL_mul {a b : Int} (ha : inB a = true) (hb : inB b = true) : doL 5 a b = res (a * b) := by
  unfold doL; rw [if_pos (Or.inr (Or.inr rfl)), if_pos ⟨ha, hb⟩, if_neg (by decide), if_neg (by decide)]

theorem siz_pos {n : Int} (h : 0 ≤ n) : siz n = n := if_pos h
theorem siz_neg {n : Int} (h : ¬ 0 ≤ n) : siz n = -n := if_neg h
theorem siz_natAbs (n : Int) : siz n = n.natAbs := by unfold siz; split <;> omega
/-- A product stays within the bounds just if the one's size is at most the bound, parted by the other's. -/
theorem mul_in {a b : Int} (h : a ≠ 0) : siz b ≤ 4611686018427387904 / siz a ↔ (-4611686018427387904 ≤ a * b ∧ a * b ≤ 4611686018427387904) := by
  have pa : 0 < siz a := by unfold siz; split <;> omega
  rw [Int.le_ediv_iff_mul_le pa, siz_natAbs, siz_natAbs]
  have : ((b.natAbs : Int) * a.natAbs) = (a * b).natAbs := by rw [Int.natAbs_mul, Int.mul_comm]; simp
  rw [this]; omega
theorem quo_bd {a : Int} (h : a ≠ 0) : 0 ≤ 4611686018427387904 / siz a ∧ 4611686018427387904 / siz a ≤ 4611686018427387904 := by
  have pa : 0 < siz a := by unfold siz; split <;> omega
  exact ⟨Int.ediv_nonneg (by decide) (by omega), Int.ediv_le_self _ (by decide)⟩

/-- The sum of a list, from the first one on. -/
def sumL : Int → List Int → Int × Int
  | s, [] => (s, 0)
  | s, n :: r => if (doL 3 s n).2 = 0 then sumL (doL 3 s n).1 r else (0, (doL 3 s n).2)
end Go.Proofs.YtcjnhhbcleljmaaGreatDoor.N
namespace Go.Proofs.YtcjnhhbcleljmaaGreatDoor.V
open N (doL)

/-- A step: kind, variable, value. -/
abbrev Oo := Int × ByteArray × Vv
/-- It pushes one; it takes two and pushes one. -/
def pushO (o : Oo) : Bool := decide (o.1 = 1 ∨ o.1 = 2)
def opO (o : Oo) : Bool := decide (o.1 = 3 ∨ o.1 = 4 ∨ o.1 = 5)
def rightO (o : Oo) : Bool :=
  if o.1 = 1 then varB o.2.1.data.toList && decide (o.2.2 = zeroV)
  else if o.1 = 2 then decide (o.2.1.size = 0) && rightVv o.2.2
  else opO o && (decide (o.2.1.size = 0) && decide (o.2.2 = zeroV))
theorem right_kind {o : Oo} (h : rightO o = true) : pushO o = true ∨ (pushO o = false ∧ opO o = true) := by
  unfold rightO at h
  unfold pushO
  split at h
  · rename_i e; left; simp [e]
  · split at h
    · rename_i e; left; simp [e]
    · rename_i e1 e2
      right
      rw [Bool.and_eq_true] at h
      exact ⟨decide_eq_false (by rintro (h | h); exact e1 h; exact e2 h), h.1⟩

/-- How many there are behind a step, where there were n; none, where it takes from fewer than two. -/
def stepD (n : Nat) (o : Oo) : Option Nat := if pushO o = true then some (n + 1) else if 2 ≤ n then some (n - 1) else none
def runD : Nat → List Oo → Option Nat
  | n, [] => some n
  | n, o :: r => (stepD n o).bind (fun m => runD m r)
theorem run_app : ∀ (l r : List Oo) (n : Nat), runD n (l ++ r) = (runD n l).bind (fun m => runD m r)
  | [], _, _ => rfl
  | o :: l, r, n => by
    simp only [List.cons_append, runD]
    cases stepD n o with
    | none => rfl
    | some m => exact run_app l r m
theorem step_add {n m : Nat} {o : Oo} (k : Nat) (h : stepD n o = some m) : stepD (n + k) o = some (m + k) := by
  unfold stepD at h ⊢
  split at h
  · rename_i hp
    rw [if_pos hp]
    simp only [Option.some.injEq] at h ⊢; omega
  · rename_i hp
    split at h
    · rw [if_neg hp, if_pos (by omega)]
      simp only [Option.some.injEq] at h ⊢; omega
    · simp at h
theorem run_add (k : Nat) : ∀ {l : List Oo} {n m : Nat}, runD n l = some m → runD (n + k) l = some (m + k)
  | [], n, m, h => by simp only [runD, Option.some.injEq] at h ⊢; omega
  | o :: l, n, m, h => by
    simp only [runD] at h ⊢
    cases hs : stepD n o with
    | none => rw [hs] at h; simp at h
    | some d =>
      rw [hs, Option.bind_some] at h
      rw [step_add k hs, Option.bind_some]
      exact run_add k h
/-- A right expression. -/
def exprB (l : List Oo) : Bool := decide (1 ≤ l.length ∧ l.length ≤ 15) && (l.all rightO && decide (runD 0 l = some 1))
theorem expr_iff {l : List Oo} : exprB l = true ↔ (1 ≤ l.length ∧ l.length ≤ 15) ∧ (∀ o ∈ l, rightO o = true) ∧ runD 0 l = some 1 := by
  simp only [exprB, Bool.and_eq_true, decide_eq_true_eq, List.all_eq_true]
/-- Two of them and what is done to both. -/
theorem expr_join {x y : List Oo} {o : Oo} (hx : exprB x = true) (hy : exprB y = true) (hl : x.length + y.length < 15) (ho : rightO o = true) (hp : pushO o = false) : exprB (x ++ y ++ [o]) = true := by
  obtain ⟨_, hx2, hx3⟩ := expr_iff.1 hx
  obtain ⟨_, hy2, hy3⟩ := expr_iff.1 hy
  refine expr_iff.2 ⟨⟨by simp; omega, by simp; omega⟩, fun u hu => ?_, ?_⟩
  · simp only [List.mem_append, List.mem_singleton] at hu
    rcases hu with (hu | hu) | rfl
    · exact hx2 u hu
    · exact hy2 u hu
    · exact ho
  · rw [run_app, run_app, hx3, Option.bind_some, run_add 1 hy3, Option.bind_some]
    simp [runD, stepD, hp]

/-- What a step does to the values, the last one ahead; or why not. -/
def stepV (b : List Bb) (s : List Vv) (o : Oo) : Except Int (List Vv) :=
  if o.1 = 1 then (match getL b o.2.1 with
    | some v => .ok (v :: s)
    | none => .error 5)
  else if o.1 = 2 then .ok (o.2.2 :: s)
  else match s with
    | y :: x :: r => if x.1 = 1 ∧ y.1 = 1 then (if (doL o.1 x.2.1 y.2.1).2 = 0 then .ok ((1, (doL o.1 x.2.1 y.2.1).1, ⟨#[]⟩) :: r) else .error (doL o.1 x.2.1 y.2.1).2) else .error 3
    | _ => .error 1
def runV (b : List Bb) : List Vv → List Oo → Except Int (List Vv)
  | s, [] => .ok s
  | s, o :: r => match stepV b s o with
    | .ok t => runV b t r
    | .error e => .error e
theorem runV_app (b : List Bb) : ∀ (l r : List Oo) (s : List Vv), runV b s (l ++ r) = (match runV b s l with
    | .ok t => runV b t r
    | .error e => .error e)
  | [], _, _ => rfl
  | o :: l, r, s => by
    simp only [List.cons_append, runV]
    cases stepV b s o with
    | error e => rfl
    | ok t => exact runV_app b l r t
/-- With more below it is the same, and that stays. -/
def below (s : List Vv) : Except Int (List Vv) → Except Int (List Vv)
  | .ok t => .ok (t ++ s)
  | .error e => .error e
theorem stepV_below {b : List Bb} {t s : List Vv} {o : Oo} {m : Nat} (h : stepD t.length o = some m) : stepV b (t ++ s) o = below s (stepV b t o) ∧ ∀ u, stepV b t o = .ok u → u.length = m := by
  unfold stepV
  unfold stepD pushO at h
  by_cases h1 : o.1 = 1
  · rw [if_pos (by simp [h1])] at h
    simp only [Option.some.injEq] at h
    simp only [h1, if_true]
    cases getL b o.2.1 with
    | none => exact ⟨rfl, fun u hu => by cases hu⟩
    | some v => exact ⟨rfl, fun u hu => by cases hu; simp; omega⟩
  · by_cases h2 : o.1 = 2
    · rw [if_pos (by simp [h2])] at h
      simp only [Option.some.injEq] at h
      simp only [h2, if_true]
      exact ⟨rfl, fun u hu => by cases hu; simp; omega⟩
    · rw [if_neg (by simp [h1, h2])] at h
      simp only [h1, h2, if_false]
      split at h
      · simp only [Option.some.injEq] at h
        match t, h with
        | y :: x :: r, h =>
          simp only [List.cons_append]
          simp only [List.length_cons] at h
          split
          · split
            · exact ⟨rfl, fun u hu => by cases hu; simp; omega⟩
            · exact ⟨rfl, fun u hu => by cases hu⟩
          · exact ⟨rfl, fun u hu => by cases hu⟩
        | [], h => rename_i hh; simp at hh
        | [_], h => rename_i hh; simp at hh
      · simp at h
theorem runV_below {b : List Bb} (s : List Vv) : ∀ {l : List Oo} {t : List Vv} {m : Nat}, runD t.length l = some m → runV b (t ++ s) l = below s (runV b t l) ∧ ∀ u, runV b t l = .ok u → u.length = m
  | [], t, m, h => by
    simp only [runD, Option.some.injEq] at h
    exact ⟨rfl, fun u hu => by cases hu; exact h⟩
  | o :: l, t, m, h => by
    simp only [runD] at h
    cases hs : stepD t.length o with
    | none => rw [hs] at h; simp at h
    | some d =>
      rw [hs, Option.bind_some] at h
      obtain ⟨h1, h2⟩ := stepV_below (b := b) (s := s) hs
      simp only [runV]
      rw [h1]
      cases hv : stepV b t o with
      | error e => exact ⟨rfl, fun u hu => by cases hu⟩
      | ok u =>
        have := h2 u hv
        subst this
        exact runV_below s h
/-- What an expression comes to: a value and 0, or a zero value and why not. -/
def evalL (b : List Bb) (l : List Oo) : Vv × Int := match runV b [] l with
  | .ok (v :: _) => (v, 0)
  | .ok [] => (zeroV, 1)
  | .error e => (zeroV, e)
/-- Of a right one: one value is left, or an error is told. -/
theorem run_one {b : List Bb} {l : List Oo} (h : exprB l = true) : (∃ v, runV b [] l = .ok [v]) ∨ ∃ e, runV b [] l = .error e := by
  have hr := (expr_iff.1 h).2.2
  have := (runV_below (b := b) [] (t := []) (l := l) hr).2
  cases hv : runV b [] l with
  | error e => exact Or.inr ⟨e, rfl⟩
  | ok u =>
    left
    have hl := this u hv
    match u, hl with
    | [v], _ => exact ⟨v, rfl⟩
/-- Errors are none of 0. -/
theorem stepV_err {b : List Bb} {s : List Vv} {o : Oo} {e : Int} (h : stepV b s o = .error e) : e ≠ 0 := by
  unfold stepV at h
  split at h
  · split at h
    · cases h
    · cases h; decide
  · split at h
    · cases h
    · split at h
      · split at h
        · split at h
          · cases h
          · rename_i hne; cases h; exact hne
        · cases h; decide
      · cases h; decide
theorem runV_err {b : List Bb} : ∀ {l : List Oo} {s : List Vv} {e : Int}, runV b s l = .error e → e ≠ 0
  | [], _, _, h => by cases h
  | o :: l, s, e, h => by
    simp only [runV] at h
    cases hs : stepV b s o with
    | error e' => rw [hs] at h; cases h; exact stepV_err hs
    | ok t => rw [hs] at h; exact runV_err h
/-- A part's value stands in its place: what two and what is done to both come to. -/
theorem eval_join {b : List Bb} {x y : List Oo} {k : Int} (hx : exprB x = true) (hy : exprB y = true) (hk : k = 3 ∨ k = 4 ∨ k = 5) :
    evalL b (x ++ y ++ [(k, ⟨#[]⟩, zeroV)]) = (if (evalL b x).2 ≠ 0 then (zeroV, (evalL b x).2) else if (evalL b y).2 ≠ 0 then (zeroV, (evalL b y).2)
      else if (evalL b x).1.1 = 1 ∧ (evalL b y).1.1 = 1 then (if (doL k (evalL b x).1.2.1 (evalL b y).1.2.1).2 = 0 then ((1, (doL k (evalL b x).1.2.1 (evalL b y).1.2.1).1, ⟨#[]⟩), 0) else (zeroV, (doL k (evalL b x).1.2.1 (evalL b y).1.2.1).2)) else (zeroV, 3)) := by
  have hy3 := (expr_iff.1 hy).2.2
  unfold evalL
  rw [runV_app, runV_app]
  rcases run_one (b := b) hx with ⟨v, hv⟩ | ⟨e, he⟩
  · rw [hv]
    have hb := (runV_below (b := b) [v] (t := []) hy3).1
    rw [List.nil_append] at hb
    simp only [hb]
    rcases run_one (b := b) hy with ⟨u, hu⟩ | ⟨e, he⟩
    · rw [hu]
      simp only [below, List.cons_append, List.nil_append, runV, stepV]
      have k1 : ¬ k = 1 := by omega
      have k2 : ¬ k = 2 := by omega
      simp only [k1, k2, if_false, ne_eq, not_true_eq_false]
      by_cases hi : v.1 = 1 ∧ u.1 = 1
      · simp only [hi, and_self, if_true]
        by_cases h0 : (doL k v.2.1 u.2.1).2 = 0 <;> simp [h0]
      · simp only [hi, if_false]
    · rw [he]
      simp [below, runV_err he]
  · rw [he]
    simp [runV_err he]
end Go.Proofs.YtcjnhhbcleljmaaGreatDoor.V
namespace Go.Proofs.YtcjnhhbcleljmaaGreatDoor.Ex
open Go.RowKit
open V

theorem cell_lt {w : World} {b o : Nat} {v : Value} (h : w.cell? ⟨b, o, none⟩ = some v) : b < w.heap.size := by
  by_cases hb : b < w.heap.size
  · exact hb
  · simp [World.cell?, Array.getElem?_eq_none (show w.heap.size ≤ b by omega)] at h
theorem cell_on {w w' : World} {b o : Nat} {v : Value} (hb : Below w.heap.size w w') (h : w.cell? ⟨b, o, none⟩ = some v) : w'.cell? ⟨b, o, none⟩ = some v :=
  (hb.cell (p := ⟨b, o, none⟩) (cell_lt h)).trans h
def flatO : List Oo → List Value
  | [] => []
  | x :: r => .int .i64 x.1 :: .string x.2.1 :: .int .i64 x.2.2.1 :: .int .i64 x.2.2.2.1 :: .string x.2.2.2.2 :: flatO r
theorem flatO_app (xs ys : List Oo) : flatO (xs ++ ys) = flatO xs ++ flatO ys := by
  induction xs with
  | nil => rfl
  | cons x r ih => simp [flatO, ih]
theorem flatO_len (xs : List Oo) : (flatO xs).length = xs.length * 5 := by
  induction xs with
  | nil => rfl
  | cons x r ih => simp [flatO, ih]; omega
theorem flatO_get (xs : List Oo) : ∀ (i : Nat) (x : Oo), xs[i]? = some x → (flatO xs)[i * 5]? = some (.int .i64 x.1) ∧ (flatO xs)[i * 5 + 1]? = some (.string x.2.1) ∧ (flatO xs)[i * 5 + 2]? = some (.int .i64 x.2.2.1) ∧ (flatO xs)[i * 5 + 3]? = some (.int .i64 x.2.2.2.1) ∧ (flatO xs)[i * 5 + 4]? = some (.string x.2.2.2.2) := by
  induction xs with
  | nil => intro i x h; simp at h
  | cons y r ih =>
    intro i x h
    match i with
    | 0 => simp at h; subst h; simp [flatO]
    | i + 1 =>
      have := ih i x (by simpa using h)
      rw [show (i + 1) * 5 = i * 5 + 1 + 1 + 1 + 1 + 1 by omega]
      simpa [flatO] using this
theorem flatO_oneCell (xs : List Oo) : ∀ u ∈ flatO xs, u.oneCell' = true := by
  induction xs with
  | nil => intro u h; simp [flatO] at h
  | cons x r ih =>
    intro u h
    simp only [flatO, List.mem_cons] at h
    rcases h with rfl | rfl | rfl | rfl | rfl | h
    · rfl
    · rfl
    · rfl
    · rfl
    · rfl
    · exact ih u h
/-- A row of them lies at a. -/
def RowO (w : World) (a : Option Addr) (xs : List Oo) : Prop :=
  xs = [] ∨ ∃ b o, a = some ⟨b, o, none⟩ ∧ b < w.heap.size ∧ ∀ (i : Nat) (x : Oo), xs[i]? = some x →
    w.cell? ⟨b, o + i * 5, none⟩ = some (.int .i64 x.1) ∧ w.cell? ⟨b, o + i * 5 + 1, none⟩ = some (.string x.2.1) ∧ w.cell? ⟨b, o + i * 5 + 2, none⟩ = some (.int .i64 x.2.2.1) ∧ w.cell? ⟨b, o + i * 5 + 3, none⟩ = some (.int .i64 x.2.2.2.1) ∧ w.cell? ⟨b, o + i * 5 + 4, none⟩ = some (.string x.2.2.2.2)
theorem RowO.on {w w' : World} {a : Option Addr} {xs : List Oo} (h : RowO w a xs) (hb : Below w.heap.size w w') : RowO w' a xs := by
  rcases h with h | ⟨b, o, ha, hlt, hc⟩
  · exact Or.inl h
  · refine Or.inr ⟨b, o, ha, by have := hb.size; omega, fun i v hv => ?_⟩
    obtain ⟨h0, h1, h2, h3, h4⟩ := hc i v hv
    exact ⟨cell_on hb h0, cell_on hb h1, cell_on hb h2, cell_on hb h3, cell_on hb h4⟩
theorem RowO.up {w : World} {a : Option Addr} {xs : List Oo} {i : Nat} (h : RowO w a xs) (hi : i < xs.length) : ∃ b o, a = some ⟨b, o, none⟩ ∧ b < w.heap.size ∧
    w.cell? ⟨b, o + i * 5, none⟩ = some (.int .i64 xs[i].1) ∧ w.cell? ⟨b, o + i * 5 + 1, none⟩ = some (.string xs[i].2.1) ∧ w.cell? ⟨b, o + i * 5 + 2, none⟩ = some (.int .i64 xs[i].2.2.1) ∧ w.cell? ⟨b, o + i * 5 + 3, none⟩ = some (.int .i64 xs[i].2.2.2.1) ∧ w.cell? ⟨b, o + i * 5 + 4, none⟩ = some (.string xs[i].2.2.2.2) := by
  rcases h with h | ⟨b, o, ha, hlt, hc⟩
  · subst h; simp at hi
  · exact ⟨b, o, ha, hlt, hc i xs[i] (by simp [hi])⟩
/-- A piece of a row: l[p:q]. -/
theorem RowO.cut {w : World} {b o : Nat} {xs : List Oo} (h : RowO w (some ⟨b, o, none⟩) xs) (p k : Nat) : RowO w (some ⟨b, o + p * 5, none⟩) ((xs.drop p).take k) := by
  rcases h with h | ⟨b', o', ha, hlt, hc⟩
  · left; subst h; simp
  · simp only [Option.some.injEq, Addr.mk.injEq, and_true] at ha
    obtain ⟨rfl, rfl⟩ := ha
    refine Or.inr ⟨b, o + p * 5, rfl, hlt, fun i x hx => ?_⟩
    have hx' : xs[p + i]? = some x := by
      have hk : i < k := by
        have := (List.getElem?_eq_some_iff.1 hx).1
        simp at this; omega
      rw [List.getElem?_take_of_lt hk, List.getElem?_drop] at hx
      exact hx
    have := hc (p + i) x hx'
    rw [show o + (p + i) * 5 = o + p * 5 + i * 5 by omega] at this
    exact this
/-- A list of steps lies at a slice. -/
structure LiesO (w : World) (a : Option Addr) (n cap : Nat) (xs : List Oo) : Prop where
  row : RowO w a xs
  len : n = xs.length
  nil : a = none → cap = 0
  cap : n ≤ cap
theorem LiesO.on {w w' : World} {a : Option Addr} {n cap : Nat} {xs : List Oo} (h : LiesO w a n cap xs) (hb : Below w.heap.size w w') : LiesO w' a n cap xs := ⟨h.row.on hb, h.len, h.nil, h.cap⟩
theorem LiesO.le {w : World} {a : Option Addr} {n cap : Nat} {xs : List Oo} (h : LiesO w a n cap xs) : n ≤ xs.length := by rw [h.len]; exact Nat.le_refl _
theorem LiesO.ge {w : World} {a : Option Addr} {n cap : Nat} {xs : List Oo} (h : LiesO w a n cap xs) : xs.length ≤ n := by rw [h.len]; exact Nat.le_refl _
theorem liesO_none (w : World) : LiesO w none 0 0 [] := ⟨Or.inl rfl, rfl, fun _ => rfl, Nat.le_refl _⟩
theorem liesO_own {w : World} {B n cp : Nat} {e : TypeId} {ao : Option Addr} {xs : List Oo} (h : w.ownsRow B e 5 (.slice ao n cp) n (flatO xs)) : LiesO w ao n cp xs := by
  have hn : n = xs.length := by have := h.1; rw [flatO_len] at this; omega
  rcases h.2 with ⟨hv, h0⟩ | ⟨g, cap, cur, hv, _, hg, hc, _, _, ht⟩
  · simp only [Value.slice.injEq] at hv
    exact ⟨Or.inl (List.eq_nil_of_length_eq_zero (by omega)), hn, fun _ => hv.2.2, by omega⟩
  · simp only [Value.slice.injEq] at hv
    obtain ⟨rfl, _, rfl⟩ := hv
    refine ⟨Or.inr ⟨g, 0, rfl, (Array.getElem?_eq_some_iff.1 hg).1, fun i v hv => ?_⟩, hn, (fun h => by cases h), hc⟩
    have hi : i < n := by rw [hn]; exact (List.getElem?_eq_some_iff.1 hv).1
    obtain ⟨h0, h1, h2, h3, h4⟩ := flatO_get xs i v hv
    rw [← ht] at h0 h1 h2 h3 h4
    rw [List.getElem?_take_of_lt (by omega), Array.getElem?_toList] at h0 h1 h2 h3 h4
    rw [Lib.cell_of_heap hg, Lib.cell_of_heap hg, Lib.cell_of_heap hg, Lib.cell_of_heap hg, Lib.cell_of_heap hg]
    simpa using ⟨h0, h1, h2, h3, h4⟩
theorem liesO_lit {w : World} {b : Nat} {xs : List Oo} {T : TypeId} (h : w.heap[b]? = some (.cells (flatO xs).toArray T)) : LiesO w (some ⟨b, 0, none⟩) xs.length xs.length xs := by
  refine ⟨Or.inr ⟨b, 0, rfl, (Array.getElem?_eq_some_iff.1 h).1, fun i v hv => ?_⟩, rfl, (fun h => by cases h), Nat.le_refl _⟩
  obtain ⟨h0, h1, h2, h3, h4⟩ := flatO_get xs i v hv
  rw [Lib.cell_of_heap h, Lib.cell_of_heap h, Lib.cell_of_heap h, Lib.cell_of_heap h, Lib.cell_of_heap h]
  simpa using ⟨h0, h1, h2, h3, h4⟩
end Go.Proofs.YtcjnhhbcleljmaaGreatDoor.Ex
namespace Go.Proofs.YtcjnhhbcleljmaaGreatDoor.V

/-- How many there are behind the first j steps. -/
def dep (l : List Oo) (j : Nat) : Nat := (runD 0 (l.take j)).getD 0
theorem run_take {l : List Oo} {n m : Nat} (h : runD n l = some m) (j : Nat) : ∃ d, runD n (l.take j) = some d := by
  have e := run_app (l.take j) (l.drop j) n
  rw [List.take_append_drop, h] at e
  cases hd : runD n (l.take j) with
  | none => rw [hd] at e; simp at e
  | some d => exact ⟨d, rfl⟩
section
variable {l : List Oo} (h : runD 0 l = some 1)
include h
theorem dep_run (j : Nat) : runD 0 (l.take j) = some (dep l j) := by
  obtain ⟨d, hd⟩ := run_take h j
  rw [dep, hd]; rfl
theorem dep_step {j : Nat} (hj : j < l.length) : (pushO l[j] = true ∧ dep l (j + 1) = dep l j + 1) ∨ (pushO l[j] = false ∧ 2 ≤ dep l j ∧ dep l (j + 1) + 1 = dep l j) := by
  have h1 := dep_run h (j + 1)
  rw [List.take_succ_eq_append_getElem hj, run_app, dep_run h j, Option.bind_some] at h1
  simp only [runD, stepD] at h1
  cases hp : pushO l[j] with
  | true =>
    rw [hp] at h1
    simp only [if_true, Option.bind_some, Option.some.injEq] at h1
    exact Or.inl ⟨rfl, h1.symm⟩
  | false =>
    rw [hp] at h1
    simp only [Bool.false_eq_true, if_false] at h1
    split at h1
    · rename_i h2
      simp only [Option.bind_some, Option.some.injEq] at h1
      exact Or.inr ⟨rfl, h2, by omega⟩
    · simp at h1
omit h in
theorem dep_zero : dep l 0 = 0 := rfl
theorem dep_pos {j : Nat} (hj : j < l.length) : 1 ≤ dep l (j + 1) := by
  rcases dep_step h hj with ⟨_, e⟩ | ⟨_, e1, e2⟩ <;> omega

/-- From a step on ahead, till one is left. -/
def scan (l : List Oo) : Nat → Nat → Int
  | _, 0 => -1
  | need, i + 1 => if (l[i]?.map pushO) = some true then (if need = 1 then (i : Int) else scan l (need - 1) i) else scan l (need + 1) i
def partL (l : List Oo) (e : Nat) : Int := scan l 1 (e + 1)
theorem scan_spec {e : Nat} (he : e < l.length) : ∀ (i need : Nat), i ≤ e + 1 → need + dep l (e + 1) = dep l i + 1 → 1 ≤ need → (∀ j, i ≤ j → j ≤ e → dep l (e + 1) ≤ dep l j) → ∃ a : Nat, scan l need i = a ∧ a < i ∧ dep l a + 1 = dep l (e + 1) ∧ ∀ j, a < j → j ≤ e → dep l (e + 1) ≤ dep l j
  | 0, need, _, hn, h1, _ => by
    have := dep_pos h he
    rw [dep_zero] at hn
    omega
  | i + 1, need, hi, hn, h1, hm => by
    have hil : i < l.length := by omega
    rw [scan]
    rcases dep_step h hil with ⟨hp, e1⟩ | ⟨hp, e1, e2⟩
    · rw [if_pos (by simp [hil, hp])]
      by_cases hn1 : need = 1
      · rw [if_pos hn1]
        exact ⟨i, rfl, by omega, by omega, fun j hj hje => hm j (by omega) hje⟩
      · rw [if_neg hn1]
        obtain ⟨a, ha, hlt, hd, hr⟩ := scan_spec he i (need - 1) (by omega) (by omega) (by omega) (fun j hj hje => by
          by_cases hji : j = i
          · subst hji; omega
          · exact hm j (by omega) hje)
        exact ⟨a, ha, by omega, hd, hr⟩
    · rw [if_neg (by simp [hil, hp])]
      obtain ⟨a, ha, hlt, hd, hr⟩ := scan_spec he i (need + 1) (by omega) (by omega) (by omega) (fun j hj hje => by
        by_cases hji : j = i
        · subst hji; omega
        · exact hm j (by omega) hje)
      exact ⟨a, ha, by omega, hd, hr⟩
/-- Where a part begins: the last place ahead of its end where there was one less. -/
theorem part_spec {e : Nat} (he : e < l.length) : ∃ a : Nat, partL l e = a ∧ a ≤ e ∧ dep l a + 1 = dep l (e + 1) ∧ ∀ j, a < j → j ≤ e → dep l (e + 1) ≤ dep l j := by
  obtain ⟨a, h1, h2, h3, h4⟩ := scan_spec h he (e + 1) 1 (Nat.le_refl _) (by omega) (Nat.le_refl _) (fun j h1 h2 => by omega)
  exact ⟨a, h1, by omega, h3, h4⟩
omit h in
theorem part_only {e a c : Nat} (ha : a ≤ e) (hc : c ≤ e) (h1 : dep l a + 1 = dep l (e + 1)) (h2 : ∀ j, a < j → j ≤ e → dep l (e + 1) ≤ dep l j) (h3 : dep l c + 1 = dep l (e + 1)) (h4 : ∀ j, c < j → j ≤ e → dep l (e + 1) ≤ dep l j) : a = c := by
  by_cases hac : a < c
  · have := h2 c hac hc; omega
  · by_cases hca : c < a
    · have := h4 a hca ha; omega
    · omega
/-- It is the step itself just where that pushes. -/
theorem part_self {e : Nat} (he : e < l.length) : partL l e = e ↔ pushO l[e] = true := by
  obtain ⟨a, h1, h2, h3, h4⟩ := part_spec h he
  rw [h1]
  rcases dep_step h he with ⟨hp, e1⟩ | ⟨hp, e1, e2⟩
  · have := part_only (l := l) h2 (Nat.le_refl e) h3 h4 (by omega) (fun j hj hje => by omega)
    simp [hp, this]
  · rw [hp]
    have : a ≠ e := by
      intro hae
      subst hae
      omega
    simp; omega
/-- A part's own steps, step by step. -/
theorem slice_run {e a : Nat} (he : e < l.length) (hae : a ≤ e) (hm : ∀ j, a < j → j ≤ e + 1 → dep l a + 1 ≤ dep l j) : ∀ k, a + k ≤ e + 1 → runD 0 ((l.drop a).take k) = some (dep l (a + k) - dep l a)
  | 0, _ => by simp [runD]
  | k + 1, hk => by
    have ih := slice_run he hae hm k (by omega)
    have hal : k < (l.drop a).length := by simp; omega
    rw [List.take_succ_eq_append_getElem hal, run_app, ih, Option.bind_some]
    have hg : (l.drop a)[k] = l[a + k]'(by omega) := by simp
    rw [hg]
    simp only [runD, stepD]
    have hak : dep l a ≤ dep l (a + k) := by
      by_cases h0 : k = 0
      · subst h0; exact Nat.le_refl _
      · have := hm (a + k) (by omega) (by omega); omega
    rcases dep_step h (show a + k < l.length by omega) with ⟨hp, e1⟩ | ⟨hp, e1, e2⟩
    · rw [hp]
      simp only [if_true, Option.bind_some, Option.some.injEq]
      rw [show a + (k + 1) = a + k + 1 by omega, e1]; omega
    · have h2 := hm (a + k + 1) (by omega) (by omega)
      rw [hp]
      simp only [Bool.false_eq_true, if_false]
      rw [if_pos (by omega)]
      simp only [Option.bind_some, Option.some.injEq]
      rw [show a + (k + 1) = a + k + 1 by omega]; omega
end
/-- A part is an expression. -/
theorem part_right {l : List Oo} (hl : exprB l = true) {e : Nat} (he : e < l.length) : ∃ a : Nat, partL l e = a ∧ a ≤ e ∧ exprB ((l.drop a).take (e + 1 - a)) = true := by
  obtain ⟨⟨h1, h15⟩, hr, h⟩ := expr_iff.1 hl
  obtain ⟨a, p1, p2, p3, p4⟩ := part_spec h he
  refine ⟨a, p1, p2, expr_iff.2 ⟨⟨by simp; omega, by simp; omega⟩, fun o ho => hr o (List.mem_of_mem_drop (List.mem_of_mem_take ho)), ?_⟩⟩
  have := slice_run h he p2 (fun j hj hje => by
    by_cases hj1 : j = e + 1
    · subst hj1; omega
    · have := p4 j hj (by omega); omega) (e + 1 - a) (by omega)
  rw [this, show a + (e + 1 - a) = e + 1 by omega]
  congr 1
  omega
/-- What a step is done to: two parts, side by side. -/
theorem part_two {l : List Oo} (h : runD 0 l = some 1) {e : Nat} (he : e < l.length) (hp : pushO l[e] = false) : ∃ a b : Nat, partL l e = a ∧ 1 ≤ e ∧ partL l (e - 1) = b ∧ a < b ∧ partL l (b - 1) = a := by
  obtain ⟨a, a1, a2, a3, a4⟩ := part_spec h he
  rcases dep_step h he with ⟨hq, _⟩ | ⟨_, e1, e2⟩
  · rw [hp] at hq; cases hq
  have he1 : 1 ≤ e := by
    rcases Nat.eq_zero_or_pos e with h0 | h0
    · subst h0; rw [dep_zero] at e1; omega
    · exact h0
  obtain ⟨b, b1, b2, b3, b4⟩ := part_spec h (show e - 1 < l.length by omega)
  rw [show e - 1 + 1 = e by omega] at b3 b4
  have hb0 : 1 ≤ b := by
    rcases Nat.eq_zero_or_pos b with h0 | h0
    · subst h0; rw [dep_zero] at b3; omega
    · exact h0
  obtain ⟨c, c1, c2, c3, c4⟩ := part_spec h (show b - 1 < l.length by omega)
  rw [show b - 1 + 1 = b by omega] at c3 c4
  have hac : a = c := part_only (l := l) a2 (by omega) a3 a4 (by omega) (fun j hj hje => by
    by_cases hjb : j < b
    · have := c4 j hj (by omega); omega
    · by_cases hjb2 : j = b
      · subst hjb2; omega
      · by_cases hje2 : j = e
        · subst hje2; omega
        · have := b4 j (by omega) (by omega); omega)
  subst hac
  exact ⟨a, b, a1, he1, b1, by omega, c1⟩
end Go.Proofs.YtcjnhhbcleljmaaGreatDoor.V
namespace Go.Proofs.YtcjnhhbcleljmaaGreatDoor.V
open N (doL sumL inB)

/-- A variable with its value put in its place. -/
def putO (b : List Bb) (o : Oo) : Oo := if o.1 = 1 then (match getL b o.2.1 with
  | some v => (2, ⟨#[]⟩, v)
  | none => o) else o
def boundO (b : List Bb) (o : Oo) : Prop := o.1 = 1 → ∃ v, getL b o.2.1 = some v
theorem put_push (b : List Bb) (o : Oo) : pushO (putO b o) = pushO o := by
  unfold putO
  split
  · rename_i h
    split
    · simp [pushO, h]
    · rfl
  · rfl
theorem put_right {b : List Bb} (hb : listB b = true) {o : Oo} (h : rightO o = true) : rightO (putO b o) = true := by
  unfold putO
  split
  · split
    · rename_i v hv
      have := list_right hb (get_mem hv)
      simp only [rightBd, Bool.and_eq_true] at this
      have h2 := this.2
      exact (show (decide ((⟨#[]⟩ : ByteArray).size = 0) && rightVv v) = true by rw [h2]; rfl)
    · exact h
  · exact h
theorem put_run (b : List Bb) : ∀ (l : List Oo) (n : Nat), runD n (l.map (putO b)) = runD n l
  | [], _ => rfl
  | o :: l, n => by
    simp only [List.map_cons, runD, stepD, put_push]
    congr 1
    funext m
    exact put_run b l m
theorem put_expr {b : List Bb} (hb : listB b = true) {l : List Oo} (h : exprB l = true) : exprB (l.map (putO b)) = true := by
  obtain ⟨h1, h2, h3⟩ := expr_iff.1 h
  refine expr_iff.2 ⟨by simpa using h1, fun o ho => ?_, by rw [put_run]; exact h3⟩
  obtain ⟨u, hu, rfl⟩ := List.mem_map.1 ho
  exact put_right hb (h2 u hu)
theorem put_step {b : List Bb} {o : Oo} (h : boundO b o) (s : List Vv) : stepV [] s (putO b o) = stepV b s o := by
  by_cases h1 : o.1 = 1
  · obtain ⟨v, hv⟩ := h h1
    simp [stepV, putO, h1, hv]
  · simp [stepV, putO, h1]
theorem put_runV {b : List Bb} : ∀ {l : List Oo} (s : List Vv), (∀ o ∈ l, boundO b o) → runV [] s (l.map (putO b)) = runV b s l
  | [], _, _ => rfl
  | o :: l, s, h => by
    simp only [List.map_cons, runV, put_step (h o (by simp))]
    cases stepV b s o with
    | error e => rfl
    | ok t => exact put_runV t (fun u hu => h u (by simp [hu]))
/-- With each variable's value in its place it comes to the same. -/
theorem put_eval {b : List Bb} {l : List Oo} (h : ∀ o ∈ l, boundO b o) : evalL [] (l.map (putO b)) = evalL b l := by
  unfold evalL; rw [put_runV [] h]
theorem run_bound {b : List Bb} : ∀ {l : List Oo} {s u : List Vv}, runV b s l = .ok u → ∀ o ∈ l, boundO b o
  | [], _, _, _, o, ho => by cases ho
  | o :: l, s, u, h, x, hx => by
    simp only [runV] at h
    cases hs : stepV b s o with
    | error e => rw [hs] at h; cases h
    | ok t =>
      rw [hs] at h
      rcases List.mem_cons.1 hx with rfl | hx
      · intro h1
        cases hg : getL b x.2.1 with
        | none => simp [stepV, h1, hg] at hs
        | some v => exact ⟨v, rfl⟩
      · exact run_bound h x hx
/-- A variable without a value: an error, whatever stands ahead. -/
theorem eval_unbound {b : List Bb} {l : List Oo} (hl : exprB l = true) (h : ¬ ∀ o ∈ l, boundO b o) : (evalL b l).2 ≠ 0 := by
  rcases run_one (b := b) hl with ⟨v, hv⟩ | ⟨e, he⟩
  · exact absurd (run_bound hv) h
  · unfold evalL
    rw [he]
    exact runV_err he
theorem put_unbound {b : List Bb} (hb : listB b = true) {l : List Oo} (hl : exprB l = true) (h : ¬ ∀ o ∈ l, boundO b o) : (evalL [] (l.map (putO b))).2 ≠ 0 := by
  refine eval_unbound (put_expr hb hl) (fun hall => h (fun o ho => ?_))
  intro h1
  cases hg : getL b o.2.1 with
  | some v => exact ⟨v, rfl⟩
  | none =>
    obtain ⟨v, hv⟩ := hall (putO b o) (List.mem_map.2 ⟨o, ho, rfl⟩) (by simp [putO, h1, hg])
    simp [getL] at hv
/-- The variables, in order, each once. -/
def varsO (l : List Oo) : List ByteArray := (l.map (fun o => o.2.1)).foldl withL []
theorem mem_varsO {l : List Oo} {x : ByteArray} : x ∈ varsO l ↔ (∃ o ∈ l, o.2.1 = x) ∧ x.size ≠ 0 := by
  unfold varsO
  rw [(fold_with _ [] List.nodup_nil).2 x]
  simp
theorem put_vars {b : List Bb} {l : List Oo} (hl : exprB l = true) (h : ∀ o ∈ l, boundO b o) : varsO (l.map (putO b)) = [] := by
  rw [List.eq_nil_iff_forall_not_mem]
  intro x hx
  obtain ⟨⟨o, ho, rfl⟩, hz⟩ := mem_varsO.1 hx
  obtain ⟨u, hu, rfl⟩ := List.mem_map.1 ho
  have hr := (expr_iff.1 hl).2.1 u hu
  unfold putO at hz
  split at hz
  · rename_i h1
    obtain ⟨v, hv⟩ := h u hu h1
    rw [hv] at hz
    exact hz rfl
  · rename_i h1
    unfold rightO at hr
    rw [if_neg h1] at hr
    split at hr
    · simp only [Bool.and_eq_true, decide_eq_true_eq] at hr; exact hz hr.1
    · simp only [Bool.and_eq_true, decide_eq_true_eq] at hr; exact hz hr.2.1

/-- A number pushed; two added. -/
def pN (n : Int) : Oo := (2, ⟨#[]⟩, (1, n, ⟨#[]⟩))
def aN : Oo := (3, ⟨#[]⟩, zeroV)
def leftC (r : List Int) : List Oo := r.flatMap (fun n => [pN n, aN])
theorem step_pN (s : List Vv) (n : Int) : stepV [] s (pN n) = .ok ((1, n, ⟨#[]⟩) :: s) := by simp [stepV, pN]
theorem step_aN (s : List Vv) (x y : Int) : stepV [] ((1, y, ⟨#[]⟩) :: (1, x, ⟨#[]⟩) :: s) aN = if (doL 3 x y).2 = 0 then .ok ((1, (doL 3 x y).1, ⟨#[]⟩) :: s) else .error (doL 3 x y).2 := by
  rfl
/-- A chain is the sum, from the first one on. -/
theorem left_run : ∀ (r : List Int) (x : Int), runV [] [(1, x, ⟨#[]⟩)] (leftC r) = if (sumL x r).2 = 0 then .ok [(1, (sumL x r).1, ⟨#[]⟩)] else .error (sumL x r).2
  | [], x => by simp [leftC, runV, sumL]
  | n :: r, x => by
    have e : leftC (n :: r) = pN n :: aN :: leftC r := rfl
    rw [e]
    simp only [runV, step_pN, step_aN, sumL]
    by_cases h : (doL 3 x n).2 = 0
    · simp only [h, if_true]
      exact left_run r _
    · simp only [h, if_false]
theorem left_eval (x : Int) (r : List Int) : evalL [] (pN x :: leftC r) = if (sumL x r).2 = 0 then ((1, (sumL x r).1, ⟨#[]⟩), 0) else (zeroV, (sumL x r).2) := by
  unfold evalL
  simp only [runV, step_pN, left_run]
  by_cases h : (sumL x r).2 = 0 <;> simp [h]
theorem do_add {a b : Int} : (doL 3 a b).2 = 0 ∧ (doL 3 a b).1 = a + b ∨ (doL 3 a b).2 = 4 := by
  unfold doL N.res
  simp only [true_or, if_true]
  split
  · split
    · exact Or.inl ⟨rfl, rfl⟩
    · exact Or.inr rfl
  · exact Or.inr rfl
theorem sum_add : ∀ (r : List Int) (x : Int), ((sumL x r).2 = 0 ∧ (sumL x r).1 = x + r.sum) ∨ (sumL x r).2 = 4
  | [], x => by simp [sumL]
  | n :: r, x => by
    simp only [sumL]
    rcases do_add (a := x) (b := n) with ⟨h1, h2⟩ | h
    · rw [if_pos h1, h2]
      rcases sum_add r (x + n) with ⟨h3, h4⟩ | h3
      · left; refine ⟨h3, ?_⟩; rw [h4, List.sum_cons]; omega
      · exact Or.inr h3
    · rw [if_neg (by omega)]; exact Or.inr h
/-- The other way about: all pushed, then added. -/
theorem push_run : ∀ (r : List Int) (s : List Vv), runV [] s (r.map pN) = .ok ((r.map (fun n => ((1, n, ⟨#[]⟩) : Vv))).reverse ++ s)
  | [], _ => rfl
  | n :: r, s => by
    simp only [List.map_cons, runV, step_pN]
    rw [push_run r]
    simp
theorem adds_run : ∀ (s : List Int) (y : Int), (runV [] ((1, y, ⟨#[]⟩) :: s.map (fun n => ((1, n, ⟨#[]⟩) : Vv))) (List.replicate s.length aN) = .ok [(1, y + s.sum, ⟨#[]⟩)]) ∨ runV [] ((1, y, ⟨#[]⟩) :: s.map (fun n => ((1, n, ⟨#[]⟩) : Vv))) (List.replicate s.length aN) = .error 4
  | [], y => by left; simp [runV]
  | x :: s, y => by
    simp only [List.map_cons, List.length_cons, List.replicate_succ, runV, step_aN]
    rcases do_add (a := x) (b := y) with ⟨h1, h2⟩ | h
    · simp only [h1, if_true, h2]
      rcases adds_run s (x + y) with h | h
      · left; rw [h, List.sum_cons]; congr 4; omega
      · exact Or.inr h
    · right
      have h0 : ¬ (doL 3 x y).2 = 0 := by omega
      rw [if_neg h0, h]
theorem rev_sum (r : List Int) : r.reverse.sum = r.sum := by
  induction r with
  | nil => rfl
  | cons n r ih => simp [List.sum_append, ih]; omega
theorem right_eval (x : Int) (r : List Int) : evalL [] ((x :: r).map pN ++ List.replicate r.length aN) = ((1, x + r.sum, ⟨#[]⟩), 0) ∨ evalL [] ((x :: r).map pN ++ List.replicate r.length aN) = (zeroV, 4) := by
  unfold evalL
  rw [runV_app, push_run]
  simp only [List.append_nil]
  obtain ⟨y, s, hs⟩ : ∃ y s, (x :: r).reverse = y :: s := by
    cases h : (x :: r).reverse with
    | nil => simp at h
    | cons y s => exact ⟨y, s, rfl⟩
  have hl : s.length = r.length := by have := congrArg List.length hs; simp at this; omega
  have hsum : y + s.sum = x + r.sum := by have := congrArg List.sum hs; rw [rev_sum] at this; simpa using this.symm
  rw [← List.map_reverse, hs, List.map_cons, ← hl, ← hsum]
  rcases adds_run s y with h | h
  · left; rw [h]
  · right; rw [h]
/-- What ExprSums asks. -/
theorem sums_two (x : Int) (r : List Int) : (evalL [] ((x :: r).map pN ++ List.replicate r.length aN)).2 = 4 ∨ (evalL [] (pN x :: leftC r)).2 = 4 ∨ ((evalL [] ((x :: r).map pN ++ List.replicate r.length aN)).2 = 0 ∧ (evalL [] ((x :: r).map pN ++ List.replicate r.length aN)).1 = (evalL [] (pN x :: leftC r)).1) := by
  rcases right_eval x r with h | h
  · rw [h, left_eval]
    rcases sum_add r x with ⟨h1, h2⟩ | h1
    · right; right
      rw [if_pos h1, h2]
      exact ⟨rfl, rfl⟩
    · right; left
      rw [if_neg (by omega), h1]
  · left; rw [h]
end Go.Proofs.YtcjnhhbcleljmaaGreatDoor.V
