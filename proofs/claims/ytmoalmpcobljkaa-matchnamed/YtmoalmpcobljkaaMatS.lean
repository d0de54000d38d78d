/- What MatchNamed asks, in plain words: an atom with its variables named otherwise. -/
import Derived.Test.YtmoalmpcobljkaaMatG
namespace Go.Proofs.Ytmoalmpcobljkaa.Sb
open Go.RowKit
open V

def nm6 : List ByteArray := [⟨#[65, 97]⟩, ⟨#[66, 98]⟩, ⟨#[67, 99]⟩, ⟨#[68, 100]⟩, ⟨#[69, 101]⟩, ⟨#[70, 102]⟩]
theorem nm6_nodup : nm6.Nodup := by decide
theorem nm6_var : ∀ n ∈ nm6, varB n.data.toList = true ∧ n.size ≠ 0 ∧ n.size ≤ 200 := by decide
/-- A name behind k of the law's steps. -/
def rnK (vs : List ByteArray) (s : ByteArray) : Nat → ByteArray
  | 0 => s
  | k + 1 => if vs[k]? = some s then nm6.getD k ⟨#[]⟩ else rnK vs s k
theorem rn_not {vs : List ByteArray} {s : ByteArray} : ∀ {k : Nat}, (∀ j, j < k → vs[j]? ≠ some s) → rnK vs s k = s
  | 0, _ => rfl
  | k + 1, h => by
    rw [rnK, if_neg (h k (by omega))]
    exact rn_not (fun j hj => h j (by omega))
theorem rn_mem {vs : List ByteArray} (hn : vs.Nodup) {j : Nat} (hj : j < vs.length) : ∀ {k : Nat}, j < k → rnK vs vs[j] k = nm6.getD j ⟨#[]⟩
  | 0, h => by omega
  | k + 1, h => by
    rw [rnK]
    by_cases e : vs[k]? = some vs[j]
    · rw [if_pos e]
      obtain ⟨hk, e2⟩ := List.getElem?_eq_some_iff.1 e
      have : k = j := by
        rw [List.Nodup, List.pairwise_iff_getElem] at hn
        by_cases h1 : k < j
        · exact absurd e2 (hn k j hk hj h1)
        · by_cases h2 : j < k
          · exact absurd e2.symm (hn j k hj hk h2)
          · omega
      rw [this]
    · rw [if_neg e]
      have : j ≠ k := fun h => e (by subst h; simp [hj])
      exact rn_mem hn hj (by omega)
theorem rn_yes {vs : List ByteArray} {s : ByteArray} {k : Nat} (hk : k < vs.length) (h : s = vs[k]) (h6 : k < nm6.length) : rnK vs s (k + 1) = nm6[k] := by
  rw [rnK, if_pos (by simp [hk, h])]
  simp [List.getD, h6]
theorem rn_no {vs : List ByteArray} {s : ByteArray} {k : Nat} (hk : k < vs.length) (h : s ≠ vs[k]) : rnK vs s (k + 1) = rnK vs s k := by
  rw [rnK, if_neg (by simp [hk]; exact fun e => h e.symm)]
def rnT (vs : List ByteArray) (k : Nat) (t : Bb) : Bb := (rnK vs t.1 k, t.2)
theorem rnT_ren {ts : List Bb} {vs : List ByteArray} (hv : varsL ts = vs) {m : Nat} : ts.map (rnT vs m) = renT (fun s => rnK vs s m) ts := by
  unfold renT
  refine List.map_congr_left (fun t ht => ?_)
  split
  · rename_i hz
    have : rnK vs t.1 m = t.1 := rn_not (fun j _ e => by
      have hm := List.mem_of_getElem? e
      rw [← hv] at hm
      exact (mem_vars.1 hm).2 hz)
    rw [rnT, this]
  · rfl
theorem vars_len (ts : List Bb) : (varsL ts).length ≤ ts.length := by
  rw [← varsK_end (ts := ts) (Nat.le_refl _)]
  exact varsK_len ts ts.length
/-- Where a variable stands among the variables. -/
theorem vars_at {ts : List Bb} {t : Bb} (ht : t ∈ ts) (hz : t.1.size ≠ 0) : ∃ j, ∃ h : j < (varsL ts).length, (varsL ts)[j] = t.1 :=
  List.getElem_of_mem (mem_vars.2 ⟨⟨t, ht, rfl⟩, hz⟩)
theorem ren_at {ts : List Bb} (h5 : ts.length ≤ 5) {t : Bb} (ht : t ∈ ts) (hz : t.1.size ≠ 0) : ∃ j, ∃ (h : j < (varsL ts).length) (h6 : j < nm6.length), (varsL ts)[j] = t.1 ∧ rnK (varsL ts) t.1 (varsL ts).length = nm6[j] := by
  obtain ⟨j, hj, e⟩ := vars_at ht hz
  have hl := vars_len ts
  have h6 : j < nm6.length := by show j < 6; omega
  refine ⟨j, hj, h6, e, ?_⟩
  rw [← e, rn_mem (vars_nodup ts) hj hj]
  simp [List.getD, h6]
/-- All that MatchNamed asks of a match. -/
theorem named_facts {n : ByteArray} {ts : List Bb} (f : Fb) (hr : rightA n ts = true) : ∃ x y ok, oneR n ts f [] = (x, ok) ∧ oneR n (ts.map (rnT (varsL ts) (varsL ts).length)) f [] = (y, ok) ∧ x.length = y.length ∧ listB x = true ∧ listB y = true ∧ (ok = true → ∀ k (h : k < (varsL ts).length) (h6 : k < nm6.length), ∃ v, getR x (varsL ts)[k] = (v, true) ∧ getR y nm6[k] = (v, true)) := by
  obtain ⟨h5, hT, ht⟩ := right_terms hr
  rw [rnT_ren rfl]
  have hrn : ∀ t ∈ ts, t.1.size ≠ 0 → varB (rnK (varsL ts) t.1 (varsL ts).length).data.toList = true ∧ (rnK (varsL ts) t.1 (varsL ts).length).size ≠ 0 := fun t h1 h2 => by
    obtain ⟨j, hj, h6, _, e⟩ := ren_at h5 h1 h2
    rw [e]
    have := nm6_var _ (List.getElem_mem h6)
    exact ⟨this.1, this.2.1⟩
  have hin : ∀ t ∈ ts, ∀ u ∈ ts, t.1.size ≠ 0 → u.1.size ≠ 0 → rnK (varsL ts) t.1 (varsL ts).length = rnK (varsL ts) u.1 (varsL ts).length → t.1 = u.1 := fun t h1 u h2 z1 z2 e => by
    obtain ⟨i, hi, hi6, ei, ri⟩ := ren_at h5 h1 z1
    obtain ⟨j, hj, hj6, ej, rj⟩ := ren_at h5 h2 z2
    rw [ri, rj] at e
    have : i = j := by
      have hn := nm6_nodup
      rw [List.Nodup, List.pairwise_iff_getElem] at hn
      by_cases h1 : i < j
      · exact absurd e (hn i j hi6 hj6 h1)
      · by_cases h2 : j < i
        · exact absurd e.symm (hn j i hj6 hi6 h2)
        · omega
    subst this
    rw [← ei, ← ej]
  have hlen : (renT (fun s => rnK (varsL ts) s (varsL ts).length) ts).length = ts.length := by simp [renT]
  have hr2 : rightA n (renT (fun s => rnK (varsL ts) s (varsL ts).length) ts) = true := by
    simp only [rightA, Bool.and_eq_true, decide_eq_true_eq, List.all_eq_true] at hr ⊢
    refine ⟨hr.1, by rw [hlen]; exact h5, fun t h => ?_⟩
    obtain ⟨u, hu, rfl⟩ := List.mem_map.1 h
    by_cases hz : u.1.size = 0
    · rw [if_pos hz]; exact hT u hu
    · rw [if_neg hz]
      have h1 := hT u hu
      rw [rightT, if_neg hz, Bool.and_eq_true] at h1
      have h2 := hrn u hu hz
      simp only [rightT]
      rw [if_neg h2.2, h2.1, h1.2]; rfl
  by_cases hc : rightF f.l = true ∧ n = f.n ∧ ts.length = f.vs.length
  · obtain ⟨hf, hn, hl⟩ := hc
    rw [one_yes hr hf hn hl rfl, one_yes hr2 hf hn (by rw [hlen]; exact hl) rfl]
    rcases ren_mat (r := fun s => rnK (varsL ts) s (varsL ts).length) (vs := f.vs.map vv) (by omega) ht hrn hin (right_vals hf).2 with ⟨h1, h2⟩ | ⟨m, k, h1, h2, h3, h4⟩
    · exact ⟨[], [], false, fin_none h1, fin_none h2, rfl, rfl, rfl, fun h => by cases h⟩
    · refine ⟨m, k, true, fin_some h1, fin_some h2, h3, mat_list rfl ht (right_vals hf).2 h1, mat_list rfl (right_terms hr2).2.2 (right_vals hf).2 h2, fun _ i hi h6 => ?_⟩
      obtain ⟨⟨t, htm, e⟩, hz⟩ := mem_vars.1 (List.getElem_mem hi)
      rw [← e] at hz
      obtain ⟨v, g1, g2⟩ := h4 t htm hz
      refine ⟨v, ?_, ?_⟩
      · rw [← e]; exact getR_some g1
      · have : rnK (varsL ts) t.1 (varsL ts).length = nm6[i] := by
          rw [e, rn_mem (vars_nodup ts) hi hi]
          simp [List.getD, h6]
        rw [← this]
        exact getR_some g2
  · have h1 : oneR n ts f [] = ([], false) := if_neg (fun g => hc ⟨g.2.1, g.2.2.1, g.2.2.2.1⟩)
    have h2 : oneR n (renT (fun s => rnK (varsL ts) s (varsL ts).length) ts) f [] = ([], false) := if_neg (fun g => hc ⟨g.2.1, g.2.2.1, by rw [← hlen]; exact g.2.2.2.1⟩)
    exact ⟨[], [], false, h1, h2, rfl, rfl, rfl, fun h => by cases h⟩

/-- The row behind i terms; within a term, behind k names. -/
def mixL (vs : List ByteArray) (m : Nat) (ts : List Bb) (i : Nat) : List Bb := (ts.take i).map (rnT vs m) ++ ts.drop i
def midL (vs : List ByteArray) (m : Nat) (ts : List Bb) (i k : Nat) (h : i < ts.length) : List Bb := (ts.take i).map (rnT vs m) ++ rnT vs k ts[i] :: ts.drop (i + 1)
theorem mix_zero (vs : List ByteArray) (m : Nat) (ts : List Bb) : mixL vs m ts 0 = ts := rfl
theorem mix_mid {vs : List ByteArray} {m : Nat} {ts : List Bb} {i : Nat} (h : i < ts.length) : mixL vs m ts i = midL vs m ts i 0 h := by
  unfold mixL midL
  rw [List.drop_eq_getElem_cons h]; rfl
theorem mid_mix {vs : List ByteArray} {m : Nat} {ts : List Bb} {i : Nat} (h : i < ts.length) : midL vs m ts i m h = mixL vs m ts (i + 1) := by
  unfold mixL midL
  rw [List.take_succ_eq_append_getElem h, List.map_append, List.append_assoc]; rfl
theorem mix_end {vs : List ByteArray} {m : Nat} {ts : List Bb} {i : Nat} (h : ts.length ≤ i) : mixL vs m ts i = ts.map (rnT vs m) := by
  unfold mixL
  rw [List.take_of_length_le h, List.drop_eq_nil_of_le h, List.append_nil]
theorem mid_same {vs : List ByteArray} {m : Nat} {ts : List Bb} {i k : Nat} {h : i < ts.length} (hk : k < vs.length) (hne : ts[i].1 ≠ vs[k]) : midL vs m ts i (k + 1) h = midL vs m ts i k h := by
  unfold midL rnT
  rw [rn_no hk hne]
theorem flatB_put (xs : List Bb) (y : Bb) (zs : List Bb) (s : ByteArray) : (flatB (xs ++ y :: zs)).set (xs.length * 4) (.string s) = flatB (xs ++ (s, y.2) :: zs) := by
  rw [flatB_app, flatB_app, List.set_append_right _ _ (by rw [flatB_len]; exact Nat.le_refl _), flatB_len, Nat.sub_self]
  rfl
theorem mid_set {vs : List ByteArray} {m : Nat} {ts : List Bb} {i k : Nat} {h : i < ts.length} (hk : k < vs.length) (he : ts[i].1 = vs[k]) (h6 : k < nm6.length) : (flatB (midL vs m ts i k h)).set (i * 4) (.string nm6[k]) = flatB (midL vs m ts i (k + 1) h) := by
  unfold midL
  have hl : ((ts.take i).map (rnT vs m)).length = i := by simp; omega
  have := flatB_put ((ts.take i).map (rnT vs m)) (rnT vs k ts[i]) (ts.drop (i + 1)) nm6[k]
  rw [hl] at this
  rw [this]
  have e : rnT vs (k + 1) ts[i] = (nm6[k], (rnT vs k ts[i]).2) := by
    unfold rnT
    rw [rn_yes hk he h6]
  rw [e]
end Go.Proofs.Ytmoalmpcobljkaa.Sb
