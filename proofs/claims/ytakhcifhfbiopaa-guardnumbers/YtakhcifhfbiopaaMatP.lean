/- Atoms that match facts, in plain words: what the variables get, the ground, what follows of both. No program in it. -/
import Derived.Test.YtakhcifhfbiopaaSubP
namespace Go.Proofs.Ytakhcifhfbiopaa.V

/-- A term is a variable (its name is not empty) with no value, or a value: it lies as a Bind does. -/
def zeroV : Vv := (0, 0, ⟨#[]⟩)
def rightT (t : Bb) : Bool := if t.1.size = 0 then rightVv t.2 else varB t.1.data.toList && decide (t.2 = zeroV)

/-- What a list of terms, matched with values, puts; one by one. -/
def matL : List Bb → List Vv → List Bb → Option (List Bb)
  | [], [], l => some l
  | t :: ts, v :: vs, l =>
    if t.1.size = 0 then (if t.2 = v then matL ts vs l else none)
    else if (bothR l [(t.1, v)]).2 = true then matL ts vs (bothR l [(t.1, v)]).1 else none
  | _, _, _ => none
/-- .. and all at once: the values that its values meet, and what its variables get. -/
def same : List Bb → List Vv → Prop
  | [], [] => True
  | t :: ts, v :: vs => (t.1.size = 0 → t.2 = v) ∧ same ts vs
  | _, _ => False
def adds : List Bb → List Vv → List Bb
  | t :: ts, v :: vs => if t.1.size = 0 then adds ts vs else (t.1, v) :: adds ts vs
  | _, _ => []

theorem same_len : ∀ {ts : List Bb} {vs : List Vv}, same ts vs → ts.length = vs.length
  | [], [], _ => rfl
  | [], _ :: _, h => h.elim
  | _ :: _, [], h => h.elim
  | _ :: ts, _ :: vs, h => by simp [same_len h.2]
theorem mem_adds : ∀ {ts : List Bb} {vs : List Vv} {x : Bb}, x ∈ adds ts vs ↔ ∃ i, ∃ (h : i < ts.length) (k : i < vs.length), ts[i].1.size ≠ 0 ∧ x = (ts[i].1, vs[i])
  | [], vs, x => by simp [adds]
  | t :: ts, [], x => by simp [adds]
  | t :: ts, v :: vs, x => by
    have ih := mem_adds (ts := ts) (vs := vs) (x := x)
    constructor
    · intro h
      unfold adds at h
      split at h
      · obtain ⟨i, h1, h2, h3, h4⟩ := ih.1 h
        exact ⟨i + 1, by simpa using h1, by simpa using h2, by simpa using h3, by simpa using h4⟩
      · rename_i hz
        rcases List.mem_cons.1 h with h | h
        · exact ⟨0, by simp, by simp, by simpa using hz, by simpa using h⟩
        · obtain ⟨i, h1, h2, h3, h4⟩ := ih.1 h
          exact ⟨i + 1, by simpa using h1, by simpa using h2, by simpa using h3, by simpa using h4⟩
    · rintro ⟨i, h1, h2, h3, h4⟩
      unfold adds
      match i, h1, h2, h3, h4 with
      | 0, _, _, h3, h4 =>
        simp only [List.getElem_cons_zero] at h3 h4
        rw [if_neg h3]
        exact List.mem_cons.2 (Or.inl h4)
      | i + 1, h1, h2, h3, h4 =>
        have := ih.2 ⟨i, by simpa using h1, by simpa using h2, by simpa using h3, by simpa using h4⟩
        split
        · exact this
        · exact List.mem_cons.2 (Or.inr this)

theorem un_cons (l a : List Bb) (x : Bb) : unL (unL l [x]) a = unL l (x :: a) := un_eq (rise_un _ _) (fun y => by
  rw [mem_un, mem_un, List.mem_cons, List.mem_singleton, or_assoc])
theorem un_sub {l a b : List Bb} (h : listB (unL l b) = true) (hs : ∀ x ∈ a, x ∈ b) : listB (unL l a) = true :=
  list_sub h (rise_un _ _) (fun _ hx => mem_un.2 ((mem_un.1 hx).imp id (hs _)))
theorem un_none {l : List Bb} (h : listB l = true) : unL l [] = l := un_eq (list_rise h) (by simp)

/-- One by one is all at once. -/
theorem mat_eq : ∀ (ts : List Bb) (vs : List Vv) (l : List Bb), listB l = true → (∀ t ∈ ts, t.1.size ≠ 0 → varB t.1.data.toList = true) → (∀ v ∈ vs, rightVv v = true) →
    (∀ m, matL ts vs l = some m ↔ same ts vs ∧ listB (unL l (adds ts vs)) = true ∧ m = unL l (adds ts vs))
  | [], [], l, hl, _, _, m => by
    have e := un_none hl
    simp only [matL, same, adds, e, hl, Option.some.injEq, true_and]
    exact eq_comm
  | [], _ :: _, l, _, _, _, m => by simp [matL, same]
  | _ :: _, [], l, _, _, _, m => by simp [matL, same]
  | t :: ts, v :: vs, l, hl, ht, hv, m => by
    have ht' : ∀ u ∈ ts, u.1.size ≠ 0 → varB u.1.data.toList = true := fun u hu => ht u (by simp [hu])
    have hv' : ∀ u ∈ vs, rightVv u = true := fun u hu => hv u (by simp [hu])
    unfold matL adds
    by_cases hz : t.1.size = 0
    · rw [if_pos hz, if_pos hz]
      by_cases he : t.2 = v
      · rw [if_pos he, mat_eq ts vs l hl ht' hv' m]
        simp only [same, hz, he, forall_const, true_and]
      · rw [if_neg he]
        simp only [same, hz, forall_const, he, false_and, iff_false]
        exact fun h => by cases h
    · rw [if_neg hz, if_neg hz]
      have hr : listB [(t.1, v)] = true := by
        have h1 := ht t (by simp) hz
        have h2 := hv v (by simp)
        simp [listB, riseB, rightBd, h1, h2]
      by_cases hb : listB (unL l [(t.1, v)]) = true
      · rw [both_t hl hr hb]
        simp only [if_true]
        rw [mat_eq ts vs (unL l [(t.1, v)]) hb ht' hv' m, un_cons]
        simp only [same, hz, false_implies, true_and]
      · rw [both_f (fun h => hb h.2.2)]
        simp only [Bool.false_eq_true, if_false]
        constructor
        · intro h; cases h
        · rintro ⟨_, h, _⟩
          exact absurd (un_sub h (a := [(t.1, v)]) (fun x hx => by rw [List.mem_singleton.1 hx]; simp)) hb

section
variable {ts : List Bb} {vs : List Vv} {l m : List Bb}
/-- What is got behind a match: each variable has the value in its place. -/
theorem mat_get (hl : listB l = true) (ht : ∀ t ∈ ts, t.1.size ≠ 0 → varB t.1.data.toList = true) (hv : ∀ v ∈ vs, rightVv v = true) (h : matL ts vs l = some m) {i : Nat} (hi : i < ts.length) (hk : i < vs.length) (hz : ts[i].1.size ≠ 0) : getL m ts[i].1 = some vs[i] := by
  obtain ⟨_, h2, rfl⟩ := (mat_eq ts vs l hl ht hv m).1 h
  exact get_some h2 (mem_un.2 (Or.inr (mem_adds.2 ⟨i, hi, hk, hz, rfl⟩)))
theorem same_at : ∀ {ts : List Bb} {vs : List Vv}, same ts vs → ∀ {i : Nat} (hi : i < ts.length) (hk : i < vs.length), ts[i].1.size = 0 → ts[i].2 = vs[i]
  | _ :: ts, _ :: vs, h, 0, _, _, hz => h.1 (by simpa using hz)
  | _ :: ts, _ :: vs, h, i + 1, hi, hk, hz => by
    simpa using same_at h.2 (i := i) (by simpa using hi) (by simpa using hk) (by simpa using hz)
theorem same_of : ∀ {ts : List Bb} {vs : List Vv}, ts.length = vs.length → (∀ i (hi : i < ts.length) (hk : i < vs.length), ts[i].1.size = 0 → ts[i].2 = vs[i]) → same ts vs
  | [], [], _, _ => trivial
  | t :: ts, v :: vs, hl, h => ⟨fun hz => h 0 (by simp) (by simp) hz, same_of (by simpa using hl) (fun i hi hk hz => by
      exact h (i + 1) (by simpa using hi) (by simpa using hk) hz)⟩
  | [], _ :: _, hl, _ => by simp at hl
  | _ :: _, [], hl, _ => by simp at hl
theorem mat_list (hl : listB l = true) (ht : ∀ t ∈ ts, t.1.size ≠ 0 → varB t.1.data.toList = true) (hv : ∀ v ∈ vs, rightVv v = true) (h : matL ts vs l = some m) : listB m = true := by
  obtain ⟨_, h2, rfl⟩ := (mat_eq ts vs l hl ht hv m).1 h
  exact h2
/-- Matched again, with what came of it, it is as it was. -/
theorem mat_again (hl : listB l = true) (ht : ∀ t ∈ ts, t.1.size ≠ 0 → varB t.1.data.toList = true) (hv : ∀ v ∈ vs, rightVv v = true) (h : matL ts vs l = some m) : matL ts vs m = some m := by
  obtain ⟨h1, h2, rfl⟩ := (mat_eq ts vs l hl ht hv m).1 h
  have e : unL (unL l (adds ts vs)) (adds ts vs) = unL l (adds ts vs) := un_eq (rise_un _ _) (fun x => ⟨Or.inl, fun hx => by
    rcases hx with hx | hx
    · exact hx
    · exact mem_un.2 (Or.inr hx)⟩)
  refine (mat_eq ts vs _ h2 ht hv _).2 ⟨h1, by rw [e]; exact h2, e.symm⟩
/-- With what came of it, it matches no other values. -/
theorem mat_only (hl : listB l = true) (ht : ∀ t ∈ ts, t.1.size ≠ 0 → varB t.1.data.toList = true) (hv : ∀ v ∈ vs, rightVv v = true) (h : matL ts vs l = some m) {us : List Vv} (hu : ∀ v ∈ us, rightVv v = true) {k : List Bb} (hk : matL ts us m = some k) : us = vs := by
  have hm := mat_list hl ht hv h
  obtain ⟨h1, h2, rfl⟩ := (mat_eq ts vs l hl ht hv m).1 h
  obtain ⟨g1, g2, rfl⟩ := (mat_eq ts us _ hm ht hu k).1 hk
  have e1 := same_len h1
  have e2 := same_len g1
  refine List.ext_getElem (by omega) (fun i hi hj => ?_)
  by_cases hz : (ts[i]'(by omega)).1.size = 0
  · rw [← same_at h1 (by omega) hj hz, ← same_at g1 (by omega) hi hz]
  · have := list_one g2 (x := ((ts[i]'(by omega)).1, us[i])) (y := ((ts[i]'(by omega)).1, vs[i])) (mem_un.2 (Or.inr (mem_adds.2 ⟨i, by omega, hi, hz, rfl⟩))) (mem_un.2 (Or.inl (mem_un.2 (Or.inr (mem_adds.2 ⟨i, by omega, hj, hz, rfl⟩))))) rfl
    exact (Prod.mk.inj this).2
end

/-- The variables, in order, each once. -/
def withL (l : List ByteArray) (s : ByteArray) : List ByteArray := if s.size = 0 then l else if l.any (fun y => decide (y = s)) = true then l else l ++ [s]
def varsL (ts : List Bb) : List ByteArray := (ts.map Prod.fst).foldl withL []
theorem mem_with {l : List ByteArray} {s x : ByteArray} : x ∈ withL l s ↔ x ∈ l ∨ (s.size ≠ 0 ∧ x = s) := by
  unfold withL
  split
  · rename_i h; simp [h]
  · rename_i h
    split
    · rename_i hm
      have hm' : s ∈ l := by simpa using hm
      constructor
      · exact Or.inl
      · rintro (hx | ⟨_, rfl⟩)
        · exact hx
        · exact hm'
    · simp [h]
theorem nodup_with {l : List ByteArray} {s : ByteArray} (h : l.Nodup) : (withL l s).Nodup := by
  unfold withL
  split
  · exact h
  · split
    · exact h
    · rename_i hm
      rw [List.nodup_append]
      refine ⟨h, by simp, fun a ha b hb e => ?_⟩
      rw [List.mem_singleton.1 hb] at e
      exact hm (by simpa using e ▸ ha)
theorem fold_with : ∀ (ns l : List ByteArray), l.Nodup → (ns.foldl withL l).Nodup ∧ ∀ x, x ∈ ns.foldl withL l ↔ x ∈ l ∨ (x ∈ ns ∧ x.size ≠ 0)
  | [], l, h => ⟨h, by simp⟩
  | n :: ns, l, h => by
    obtain ⟨h1, h2⟩ := fold_with ns (withL l n) (nodup_with h)
    refine ⟨h1, fun x => ?_⟩
    simp only [List.foldl_cons]
    rw [h2 x, mem_with, List.mem_cons]
    constructor
    · rintro ((hx | ⟨hs, rfl⟩) | ⟨hx, hs⟩)
      · exact Or.inl hx
      · exact Or.inr ⟨Or.inl rfl, hs⟩
      · exact Or.inr ⟨Or.inr hx, hs⟩
    · rintro (hx | ⟨rfl | hx, hs⟩)
      · exact Or.inl (Or.inl hx)
      · exact Or.inl (Or.inr ⟨hs, rfl⟩)
      · exact Or.inr ⟨hx, hs⟩
theorem vars_nodup (ts : List Bb) : (varsL ts).Nodup := (fold_with _ [] List.nodup_nil).1
theorem mem_vars {ts : List Bb} {x : ByteArray} : x ∈ varsL ts ↔ (∃ t ∈ ts, t.1 = x) ∧ x.size ≠ 0 := by
  unfold varsL
  rw [(fold_with _ [] List.nodup_nil).2 x]
  simp
/-- As many values come of it as it has variables, where there were none. -/
theorem mat_count {ts : List Bb} {vs : List Vv} {m : List Bb} (ht : ∀ t ∈ ts, t.1.size ≠ 0 → varB t.1.data.toList = true) (hv : ∀ v ∈ vs, rightVv v = true) (h : matL ts vs [] = some m) : m.length = (varsL ts).length := by
  have hl : listB [] = true := rfl
  have hm := mat_list hl ht hv h
  obtain ⟨h1, h2, rfl⟩ := (mat_eq ts vs [] hl ht hv m).1 h
  have e := same_len h1
  have hn : ((unL [] (adds ts vs)).map Prod.fst).Nodup := by
    rw [List.Nodup, List.pairwise_map]
    refine (list_pair hm).imp (fun {a b} hab e => ?_)
    have := byV_zero.2 e
    omega
  have hs : ∀ x, x ∈ (unL [] (adds ts vs)).map Prod.fst ↔ x ∈ varsL ts := fun x => by
    rw [List.mem_map, mem_vars]
    constructor
    · rintro ⟨y, hy, rfl⟩
      rcases mem_un.1 hy with hy | hy
      · cases hy
      · obtain ⟨i, hi, hk, hz, rfl⟩ := mem_adds.1 hy
        exact ⟨⟨ts[i], List.getElem_mem hi, rfl⟩, hz⟩
    · rintro ⟨⟨t, htm, rfl⟩, hz⟩
      obtain ⟨i, hi, rfl⟩ := List.getElem_of_mem htm
      exact ⟨(ts[i].1, vs[i]'(by omega)), mem_un.2 (Or.inr (mem_adds.2 ⟨i, hi, by omega, hz, rfl⟩)), rfl⟩
  have a1 := List.Nodup.length_le_of_subset hn (fun x hx => (hs x).1 hx)
  have a2 := List.Nodup.length_le_of_subset (vars_nodup ts) (fun x hx => (hs x).2 hx)
  simp only [List.length_map] at a1 a2
  omega

/-- The ground: each variable's value in its place; none, if one has none. -/
def groundL (l : List Bb) : List Bb → Option (List Vv)
  | [] => some []
  | t :: ts => if t.1.size = 0 then (groundL l ts).map (t.2 :: ·) else match getL l t.1 with
    | some v => (groundL l ts).map (v :: ·)
    | none => none
theorem ground_mat {m : List Bb} : ∀ {ts : List Bb} {vs : List Vv}, same ts vs → (∀ i (_ : i < ts.length) (_ : i < vs.length), ts[i].1.size ≠ 0 → getL m ts[i].1 = some vs[i]) → groundL m ts = some vs
  | [], [], _, _ => rfl
  | [], _ :: _, h, _ => h.elim
  | _ :: _, [], h, _ => h.elim
  | t :: ts, v :: vs, h, hg => by
    have ih := ground_mat (m := m) h.2 (fun i hi hk hz => by
      exact hg (i + 1) (by simpa using hi) (by simpa using hk) hz)
    unfold groundL
    by_cases hz : t.1.size = 0
    · rw [if_pos hz, ih, h.1 hz]; rfl
    · have := hg 0 (by simp) (by simp) hz
      simp only [List.getElem_cons_zero] at this
      rw [if_neg hz, this, ih]; rfl
theorem mat_ground {ts : List Bb} {vs : List Vv} {l m : List Bb} (hl : listB l = true) (ht : ∀ t ∈ ts, t.1.size ≠ 0 → varB t.1.data.toList = true) (hv : ∀ v ∈ vs, rightVv v = true) (h : matL ts vs l = some m) : groundL m ts = some vs :=
  ground_mat ((mat_eq ts vs l hl ht hv m).1 h).1 (fun _ hi hk hz => mat_get hl ht hv h hi hk hz)
end Go.Proofs.Ytakhcifhfbiopaa.V
