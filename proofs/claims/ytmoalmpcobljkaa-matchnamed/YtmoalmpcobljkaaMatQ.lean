/- Atoms of unlike variables, of values alone, with variables named otherwise: what they match, in plain words. No program in it. -/
import Derived.Test.YtmoalmpcobljkaaMatP
namespace Go.Proofs.Ytmoalmpcobljkaa.V

theorem adds_len : ∀ (ts : List Bb) (vs : List Vv), (adds ts vs).length ≤ ts.length
  | [], _ => by simp [adds]
  | _ :: _, [] => by simp [adds]
  | t :: ts, v :: vs => by
    have := adds_len ts vs
    unfold adds
    split <;> simp <;> omega
/-- Of a few: right just if each is, and no variable has two values. -/
theorem un_small {a : List Bb} (hl : a.length ≤ 100) : listB (unL [] a) = true ↔ (∀ x ∈ a, rightBd x = true) ∧ ∀ x ∈ a, ∀ y ∈ a, x.1 = y.1 → x = y := by
  constructor
  · intro h
    exact ⟨fun x hx => list_right h (mem_un.2 (Or.inr hx)), fun x hx y hy e => list_one h (mem_un.2 (Or.inr hx)) (mem_un.2 (Or.inr hy)) e⟩
  · rintro ⟨h1, h2⟩
    have hm : ∀ x, x ∈ unL [] a → x ∈ a := fun x hx => by
      rcases mem_un.1 hx with h | h
      · cases h
      · exact h
    have hs := List.Nodup.length_le_of_subset (rise_nodup ord_bind (rise_un [] a)) (fun x hx => hm x hx)
    exact list_of (rise_un _ _) (by omega) (fun x hx => h1 x (hm x hx)) (fun x hx y hy e => h2 x (hm x hx) y (hm y hy) e)

/-- An atom of values alone matches just these. -/
def fixedT (vs : List Vv) : List Bb := vs.map (fun v => (⟨#[]⟩, v))
theorem fixed_adds : ∀ (vs us : List Vv), adds (fixedT vs) us = []
  | [], _ => rfl
  | _ :: _, [] => rfl
  | _ :: vs, _ :: us => by
    have := fixed_adds vs us
    simp only [fixedT, List.map_cons] at this ⊢
    unfold adds
    rw [if_pos (show (({ data := #[] } : ByteArray)).size = 0 from rfl)]
    exact this
theorem fixed_same : ∀ (vs us : List Vv), same (fixedT vs) us ↔ vs = us
  | [], [] => by simp [fixedT, same]
  | [], _ :: _ => by simp [fixedT, same]
  | _ :: _, [] => by simp [fixedT, same]
  | v :: vs, u :: us => by
    have := fixed_same vs us
    simp only [fixedT, List.map_cons, same] at this ⊢
    rw [this, List.cons.injEq]
    constructor
    · rintro ⟨h, rfl⟩; exact ⟨h rfl, rfl⟩
    · rintro ⟨rfl, rfl⟩; exact ⟨fun _ => rfl, rfl⟩
theorem fixed_vars (vs : List Vv) : ∀ t ∈ fixedT vs, t.1.size ≠ 0 → varB t.1.data.toList = true := fun t ht hz => by
  obtain ⟨v, _, rfl⟩ := List.mem_map.1 ht
  exact absurd rfl hz
theorem fixed_mat (vs us : List Vv) (hu : ∀ v ∈ us, rightVv v = true) : matL (fixedT vs) us [] = if vs = us then some [] else none := by
  have hl : listB [] = true := rfl
  have h := mat_eq (fixedT vs) us [] hl (fixed_vars vs) hu
  split
  · rename_i e
    refine (h []).2 ⟨(fixed_same vs us).2 e, ?_, ?_⟩
    · rw [fixed_adds, un_none hl]; rfl
    · rw [fixed_adds, un_none hl]
  · rename_i e
    cases hm : matL (fixedT vs) us [] with
    | none => rfl
    | some m => exact absurd ((fixed_same vs us).1 ((h m).1 hm).1) e

/-- An atom of unlike variables matches as many values, whatever they are. -/
def freeT (ns : List ByteArray) : List Bb := ns.map (fun n => (n, zeroV))
theorem free_at {ns : List ByteArray} {i : Nat} (h : i < (freeT ns).length) : (freeT ns)[i] = (ns[i]'(by simpa [freeT] using h), zeroV) := by simp [freeT]
theorem free_mat {ns : List ByteArray} {us : List Vv} (hn : ns.Nodup) (hv : ∀ n ∈ ns, varB n.data.toList = true) (hz : ∀ n ∈ ns, n.size ≠ 0) (hu : ∀ v ∈ us, rightVv v = true) (h5 : ns.length ≤ 100) :
    (ns.length = us.length → ∃ m, matL (freeT ns) us [] = some m) ∧ (ns.length ≠ us.length → matL (freeT ns) us [] = none) := by
  have hl : listB [] = true := rfl
  have ht : ∀ t ∈ freeT ns, t.1.size ≠ 0 → varB t.1.data.toList = true := fun t ht _ => by
    obtain ⟨n, hm, rfl⟩ := List.mem_map.1 ht
    exact hv n hm
  have h := mat_eq (freeT ns) us [] hl ht hu
  have hlen : (freeT ns).length = ns.length := by simp [freeT]
  constructor
  · intro e
    refine ⟨_, (h _).2 ⟨same_of (by omega) (fun i hi hk h0 => ?_), (un_small (by have := adds_len (freeT ns) us; omega)).2 ⟨fun x hx => ?_, fun x hx y hy e2 => ?_⟩, rfl⟩⟩
    · rw [free_at] at h0
      exact absurd h0 (hz _ (List.getElem_mem _))
    · obtain ⟨i, hi, hk, _, rfl⟩ := mem_adds.1 hx
      rw [free_at]
      simp only [rightBd]
      rw [hv _ (List.getElem_mem _), hu _ (List.getElem_mem hk)]; rfl
    · obtain ⟨i, hi, hk, _, rfl⟩ := mem_adds.1 hx
      obtain ⟨j, hj, hk', _, rfl⟩ := mem_adds.1 hy
      simp only [free_at] at e2 ⊢
      have hij : i = j := by
        rw [List.Nodup, List.pairwise_iff_getElem] at hn
        by_cases h1 : i < j
        · exact absurd e2 (hn i j (by omega) (by omega) h1)
        · by_cases h2 : j < i
          · exact absurd e2.symm (hn j i (by omega) (by omega) h2)
          · omega
      subst hij
      rfl
  · intro e
    cases hm : matL (freeT ns) us [] with
    | none => rfl
    | some m => exact absurd (hlen.symm.trans (same_len ((h m).1 hm).1)) e

/-- Its variables named otherwise. -/
def renT (r : ByteArray → ByteArray) (ts : List Bb) : List Bb := ts.map (fun t => if t.1.size = 0 then t else (r t.1, t.2))
theorem ren_same (r : ByteArray → ByteArray) : ∀ (ts : List Bb) (vs : List Vv), (∀ t ∈ ts, t.1.size ≠ 0 → (r t.1).size ≠ 0) → (same (renT r ts) vs ↔ same ts vs)
  | [], [], _ => Iff.rfl
  | [], _ :: _, _ => Iff.rfl
  | _ :: _, [], _ => Iff.rfl
  | t :: ts, v :: vs, h => by
    have ih := ren_same r ts vs (fun u hu => h u (by simp [hu]))
    simp only [renT, List.map_cons, same] at ih ⊢
    rw [ih]
    by_cases hz : t.1.size = 0
    · rw [if_pos hz]
    · rw [if_neg hz]
      have h2 := h t (by simp) hz
      simp only [h2, hz, false_implies]
theorem ren_adds (r : ByteArray → ByteArray) : ∀ (ts : List Bb) (vs : List Vv), (∀ t ∈ ts, t.1.size ≠ 0 → (r t.1).size ≠ 0) → adds (renT r ts) vs = (adds ts vs).map (fun x => (r x.1, x.2))
  | [], _, _ => rfl
  | _ :: _, [], _ => rfl
  | t :: ts, v :: vs, h => by
    have ih := ren_adds r ts vs (fun u hu => h u (by simp [hu]))
    simp only [renT, List.map_cons] at ih ⊢
    by_cases hz : t.1.size = 0
    · rw [if_pos hz]
      unfold adds
      rw [if_pos hz, if_pos hz]
      exact ih
    · rw [if_neg hz]
      unfold adds
      rw [if_neg hz, if_neg (h t (by simp) hz), List.map_cons]
      exact congrArg _ ih
/-- Each its own: the same facts match, and what a variable gets its other name gets. -/
theorem ren_mat {r : ByteArray → ByteArray} {ts : List Bb} {vs : List Vv} (h5 : ts.length ≤ 100) (ht : ∀ t ∈ ts, t.1.size ≠ 0 → varB t.1.data.toList = true) (hr : ∀ t ∈ ts, t.1.size ≠ 0 → varB (r t.1).data.toList = true ∧ (r t.1).size ≠ 0) (hi : ∀ t ∈ ts, ∀ u ∈ ts, t.1.size ≠ 0 → u.1.size ≠ 0 → r t.1 = r u.1 → t.1 = u.1) (hv : ∀ v ∈ vs, rightVv v = true) :
    (matL ts vs [] = none ∧ matL (renT r ts) vs [] = none) ∨ ∃ m k, matL ts vs [] = some m ∧ matL (renT r ts) vs [] = some k ∧ m.length = k.length ∧ ∀ t ∈ ts, t.1.size ≠ 0 → ∃ v, getL m t.1 = some v ∧ getL k (r t.1) = some v := by
  have hl : listB [] = true := rfl
  have hz' : ∀ t ∈ ts, t.1.size ≠ 0 → (r t.1).size ≠ 0 := fun t h1 h2 => (hr t h1 h2).2
  have ht' : ∀ t ∈ renT r ts, t.1.size ≠ 0 → varB t.1.data.toList = true := fun t h1 h2 => by
    obtain ⟨u, hu, rfl⟩ := List.mem_map.1 h1
    split at h2
    · rename_i hz; exact absurd hz h2
    · rename_i hz
      rw [if_neg hz]
      exact (hr u hu hz).1
  have e1 := mat_eq ts vs [] hl ht hv
  have e2 := mat_eq (renT r ts) vs [] hl ht' hv
  have ea := ren_adds r ts vs hz'
  have hlen := adds_len ts vs
  have iff : listB (unL [] (adds (renT r ts) vs)) = true ↔ listB (unL [] (adds ts vs)) = true := by
    rw [un_small (by rw [ea, List.length_map]; omega), un_small (by omega), ea]
    have back : ∀ x ∈ adds ts vs, ∀ y ∈ adds ts vs, r x.1 = r y.1 → x.1 = y.1 := fun x hx y hy e => by
      obtain ⟨i, hi', hk, hz, rfl⟩ := mem_adds.1 hx
      obtain ⟨j, hj', hk', hz2, rfl⟩ := mem_adds.1 hy
      exact hi ts[i] (List.getElem_mem hi') ts[j] (List.getElem_mem hj') hz hz2 e
    constructor
    · rintro ⟨_, h2⟩
      refine ⟨fun x hx => ?_, fun x hx y hy e => ?_⟩
      · obtain ⟨i, hi', hk, hz, rfl⟩ := mem_adds.1 hx
        simp only [rightBd]
        rw [ht _ (List.getElem_mem hi') hz, hv _ (List.getElem_mem hk)]; rfl
      · have := h2 (r x.1, x.2) (List.mem_map.2 ⟨x, hx, rfl⟩) (r y.1, y.2) (List.mem_map.2 ⟨y, hy, rfl⟩) (by rw [e])
        exact Prod.ext e (Prod.mk.inj this).2
    · rintro ⟨_, h2⟩
      refine ⟨fun x hx => ?_, fun x hx y hy e => ?_⟩
      · obtain ⟨z, hz1, rfl⟩ := List.mem_map.1 hx
        obtain ⟨i, hi', hk, hz, rfl⟩ := mem_adds.1 hz1
        simp only [rightBd]
        rw [(hr _ (List.getElem_mem hi') hz).1, hv _ (List.getElem_mem hk)]; rfl
      · obtain ⟨a, ha, rfl⟩ := List.mem_map.1 hx
        obtain ⟨b, hb, rfl⟩ := List.mem_map.1 hy
        rw [h2 a ha b hb (back a ha b hb e)]
  by_cases hs : same ts vs ∧ listB (unL [] (adds ts vs)) = true
  · right
    have g1 := (e1 _).2 ⟨hs.1, hs.2, rfl⟩
    have g2 := (e2 _).2 ⟨(ren_same r ts vs hz').2 hs.1, iff.2 hs.2, rfl⟩
    refine ⟨_, _, g1, g2, ?_, fun t htm hz => ?_⟩
    · have p1 := mat_count ht hv g1
      have p2 := mat_count ht' hv g2
      rw [p1, p2]
      have hv1 : ∀ x, x ∈ varsL (renT r ts) ↔ x ∈ (varsL ts).map r := fun x => by
        rw [mem_vars, List.mem_map]
        constructor
        · rintro ⟨⟨t, htm, rfl⟩, hx⟩
          obtain ⟨u, hu, rfl⟩ := List.mem_map.1 htm
          by_cases hz : u.1.size = 0
          · rw [if_pos hz] at hx; exact absurd hz hx
          · rw [if_neg hz]
            exact ⟨u.1, mem_vars.2 ⟨⟨u, hu, rfl⟩, hz⟩, rfl⟩
        · rintro ⟨n, hn, rfl⟩
          obtain ⟨⟨u, hu, rfl⟩, hz⟩ := mem_vars.1 hn
          exact ⟨⟨(r u.1, u.2), List.mem_map.2 ⟨u, hu, by rw [if_neg hz]⟩, rfl⟩, hz' u hu hz⟩
      have hn2 : ((varsL ts).map r).Nodup := by
        rw [List.Nodup, List.pairwise_map]
        refine List.Pairwise.imp_of_mem (fun {a b} ha hb hab e => ?_) (vars_nodup ts)
        obtain ⟨⟨u, hu, rfl⟩, hz⟩ := mem_vars.1 ha
        obtain ⟨⟨w, hw, rfl⟩, hz2⟩ := mem_vars.1 hb
        exact hab (hi u hu w hw hz hz2 e)
      have a1 := List.Nodup.length_le_of_subset (vars_nodup (renT r ts)) (fun x hx => (hv1 x).1 hx)
      have a2 := List.Nodup.length_le_of_subset hn2 (fun x hx => (hv1 x).2 hx)
      simp only [List.length_map] at a1 a2
      omega
    · obtain ⟨i, hi', rfl⟩ := List.getElem_of_mem htm
      have hk : i < vs.length := by rw [← same_len hs.1]; exact hi'
      refine ⟨vs[i], mat_get hl ht hv g1 hi' hk hz, ?_⟩
      refine get_some (iff.2 hs.2) (mem_un.2 (Or.inr ?_))
      rw [ea]
      exact List.mem_map.2 ⟨(ts[i].1, vs[i]), mem_adds.2 ⟨i, hi', hk, hz, rfl⟩, rfl⟩
  · left
    constructor
    · cases hm : matL ts vs [] with
      | none => rfl
      | some m => exact absurd ⟨((e1 m).1 hm).1, ((e1 m).1 hm).2.1⟩ hs
    · cases hm : matL (renT r ts) vs [] with
      | none => rfl
      | some m => exact absurd ⟨(ren_same r ts vs hz').1 ((e2 m).1 hm).1, iff.1 ((e2 m).1 hm).2.1⟩ hs
end Go.Proofs.Ytmoalmpcobljkaa.V
