/- One term matched with one value, a list of them in parts: plain words. -/
import Derived.Test.YtmoalmpcobljkaaMatA
namespace Go.Proofs.Ytmoalmpcobljkaa.Sb
open Go.RowKit
open V

/-- A value of a fact, as the plain words have it. -/
def vv (v : Vb) : Vv := (v.k, v.n, v.s)
theorem vv_right (v : Vb) : rightVv (vv v) = rightV v.l := rfl
theorem vv_inj {u v : Vb} (h : vv u = vv v) : u = v := by
  cases u; cases v
  simp only [vv, Prod.mk.injEq] at h
  obtain ⟨rfl, rfl, rfl⟩ := h
  rfl
theorem vl_inj {u v : Vb} (h : u.l = v.l) : u = v := by
  cases u; cases v
  simp only [Vb.l, Prod.mk.injEq] at h
  obtain ⟨rfl, rfl, h⟩ := h
  rw [bytes_ext h]
theorem map_inj {α β : Type} {f : α → β} (hf : ∀ a b, f a = f b → a = b) : ∀ {xs ys : List α}, xs.map f = ys.map f → xs = ys
  | [], [], _ => rfl
  | [], _ :: _, h => by simp at h
  | _ :: _, [], h => by simp at h
  | a :: xs, b :: ys, h => by
    simp only [List.map_cons, List.cons.injEq] at h
    rw [hf a b h.1, map_inj hf h.2]
theorem vl_map {xs ys : List Vb} : xs.map Vb.l = ys.map Vb.l ↔ xs.map vv = ys.map vv := by
  constructor
  · intro h
    have : xs = ys := map_inj (fun _ _ e => vl_inj e) h
    rw [this]
  · intro h
    have : xs = ys := map_inj (fun _ _ e => vv_inj e) h
    rw [this]
theorem fl_iff {f g : Fb} : f.l = g.l ↔ f.n = g.n ∧ f.vs.map vv = g.vs.map vv := by
  unfold Fb.l
  rw [Prod.mk.injEq, vl_map]
  constructor
  · rintro ⟨h, k⟩; exact ⟨bytes_ext h, k⟩
  · rintro ⟨h, k⟩; exact ⟨by rw [h], k⟩
theorem right_vals {f : Fb} (h : rightF f.l = true) : f.vs.length ≤ 5 ∧ ∀ v ∈ f.vs.map vv, rightVv v = true := by
  simp only [rightF, Fb.l, Bool.and_eq_true, decide_eq_true_eq, List.length_map, List.all_eq_true] at h
  refine ⟨h.2.1, fun v hv => ?_⟩
  obtain ⟨u, hu, rfl⟩ := List.mem_map.1 hv
  exact h.2.2 _ (List.mem_map.2 ⟨u, hu, rfl⟩)
theorem right_terms {n : ByteArray} {ts : List Bb} (h : rightA n ts = true) : ts.length ≤ 5 ∧ (∀ t ∈ ts, rightT t = true) ∧ ∀ t ∈ ts, t.1.size ≠ 0 → varB t.1.data.toList = true := by
  simp only [rightA, Bool.and_eq_true, decide_eq_true_eq, List.all_eq_true] at h
  refine ⟨h.2.1, h.2.2, fun t ht hz => ?_⟩
  have := h.2.2 t ht
  rw [rightT, if_neg hz, Bool.and_eq_true] at this
  exact this.1

/-- One term, one value. -/
def mtR (t : Bb) (v : Vv) (l : List Bb) : List Bb × Bool :=
  if t.1.size = 0 then (if t.2 = v then (l, true) else ([], false)) else bothR l [(t.1, v)]
theorem mt_list {t : Bb} {v : Vv} {l us : List Bb} {ok : Bool} (hl : listB l = true) (h : mtR t v l = (us, ok)) : listB us = true := by
  unfold mtR at h
  split at h
  · split at h
    · simp only [Prod.mk.injEq] at h; rw [← h.1]; exact hl
    · simp only [Prod.mk.injEq] at h; rw [← h.1]; rfl
  · exact both_list h
theorem mt_no {t : Bb} {v : Vv} {l us : List Bb} (h : mtR t v l = (us, false)) : us = [] := by
  unfold mtR at h
  split at h
  · split at h
    · simp at h
    · simp only [Prod.mk.injEq, and_true] at h; exact h.symm
  · exact both_no h
theorem lt_un {xs ys : List Bb} (hx : ∀ x ∈ xs, Lt x) (hy : ∀ x ∈ ys, Lt x) : ∀ x ∈ unL xs ys, Lt x := fun x h => by
  rcases mem_un.1 h with h | h
  · exact hx x h
  · exact hy x h
theorem lt_mt {t : Bb} {v : Vv} {l us : List Bb} {ok : Bool} (h : mtR t v l = (us, ok)) (hL : ∀ x ∈ l, Lt x) (ht : Lt t) (hv : v.2.2.size ≤ 200) : ∀ x ∈ us, Lt x := by
  cases ok with
  | false => rw [mt_no h]; intro x hx; cases hx
  | true =>
    unfold mtR at h
    split at h
    · split at h
      · simp only [Prod.mk.injEq, and_true] at h; rw [← h]; exact hL
      · simp at h
    · rw [(both_ok h).2.2.2]
      exact lt_un hL (fun y hy => by rw [List.mem_singleton.1 hy]; exact ⟨ht.1, hv⟩)
theorem mat_one (t : Bb) (v : Vv) (l : List Bb) : matL [t] [v] l = if (mtR t v l).2 = true then some (mtR t v l).1 else none := by
  unfold mtR
  simp only [matL]
  by_cases hz : t.1.size = 0
  · by_cases he : t.2 = v <;> simp [hz, he]
  · simp [hz]
theorem mat_app (ts' : List Bb) (vs' : List Vv) : ∀ (ts : List Bb) (vs : List Vv) (l : List Bb), ts.length = vs.length → matL (ts ++ ts') (vs ++ vs') l = (matL ts vs l).bind (fun m => matL ts' vs' m)
  | [], [], l, _ => rfl
  | [], _ :: _, _, h => by simp at h
  | _ :: _, [], _, h => by simp at h
  | t :: ts, v :: vs, l, h => by
    have ih := fun l => mat_app ts' vs' ts vs l (by simpa using h)
    simp only [List.cons_append, matL]
    by_cases hz : t.1.size = 0
    · by_cases he : t.2 = v
      · simp only [hz, he, if_true, ih]
      · simp only [hz, he, if_true, if_false, Option.bind_none]
    · simp only [hz, if_false]
      split
      · exact ih _
      · rfl
/-- What comes of a match. -/
def finR (ts : List Bb) (vs : List Vv) (l : List Bb) : List Bb × Bool := match matL ts vs l with
  | some m => (m, true)
  | none => ([], false)
theorem fin_some {ts : List Bb} {vs : List Vv} {l m : List Bb} (h : matL ts vs l = some m) : finR ts vs l = (m, true) := by simp [finR, h]
theorem fin_none {ts : List Bb} {vs : List Vv} {l : List Bb} (h : matL ts vs l = none) : finR ts vs l = ([], false) := by simp [finR, h]
theorem fin_ok {ts : List Bb} {vs : List Vv} {l m : List Bb} (h : finR ts vs l = (m, true)) : matL ts vs l = some m := by
  unfold finR at h
  split at h
  · rename_i e; simp only [Prod.mk.injEq, and_true] at h; rw [e, h]
  · simp at h
theorem fin_no {ts : List Bb} {vs : List Vv} {l m : List Bb} (h : finR ts vs l = (m, false)) : matL ts vs l = none ∧ m = [] := by
  unfold finR at h
  split at h
  · simp at h
  · rename_i e; simp only [Prod.mk.injEq, and_true] at h; exact ⟨e, h.symm⟩
/-- Behind k terms: what came of them, or that nothing comes of all. -/
def Upto (ts : List Bb) (vs : List Vv) (l : List Bb) (r : List Bb × Bool) (k : Nat) (cur : List Bb) (ok : Bool) : Prop :=
  (ok = true ∧ matL (ts.take k) (vs.take k) l = some cur ∧ finR ts vs l = r) ∨ (ok = false ∧ cur = [] ∧ ([], false) = r)
theorem upto_next {ts : List Bb} {vs : List Vv} {l cur us : List Bb} {r : List Bb × Bool} {k : Nat} {ok : Bool} (hl : ts.length = vs.length) (hk : k < ts.length) (hm : matL (ts.take k) (vs.take k) l = some cur) (hr : finR ts vs l = r) (h : mtR ts[k] (vs[k]'(hl ▸ hk)) cur = (us, ok)) : Upto ts vs l r (k + 1) us ok := by
  have hk' : k < vs.length := hl ▸ hk
  have hlen : (ts.take k).length = (vs.take k).length := by simp; omega
  have e : matL (ts.take (k + 1)) (vs.take (k + 1)) l = if ok = true then some us else none := by
    rw [List.take_succ_eq_append_getElem hk, List.take_succ_eq_append_getElem hk', mat_app _ _ _ _ _ hlen, hm, Option.bind_some, mat_one, h]
  cases ok with
  | true => exact Or.inl ⟨rfl, by simpa using e, hr⟩
  | false =>
    refine Or.inr ⟨rfl, mt_no h, ?_⟩
    rw [← hr]
    have e2 : matL ts vs l = none := by
      have h2 := mat_app (ts.drop (k + 1)) (vs.drop (k + 1)) (ts.take (k + 1)) (vs.take (k + 1)) l (by simp; omega)
      rw [List.take_append_drop, List.take_append_drop, e] at h2
      simpa using h2
    rw [fin_none e2]
theorem upto_end {ts : List Bb} {vs : List Vv} {l cur : List Bb} {r : List Bb × Bool} {k : Nat} {ok : Bool} (h : Upto ts vs l r k cur ok) (hk : ts.length ≤ k) (hk' : vs.length ≤ k) : (cur, ok) = r := by
  rcases h with ⟨rfl, h1, h2⟩ | ⟨rfl, rfl, h2⟩
  · rw [List.take_of_length_le hk, List.take_of_length_le hk'] at h1
    rw [← h2, fin_some h1]
  · exact h2

/-- What match.One comes to. -/
def oneR (n : ByteArray) (ts : List Bb) (f : Fb) (l : List Bb) : List Bb × Bool :=
  if rightA n ts = true ∧ rightF f.l = true ∧ n = f.n ∧ ts.length = f.vs.length ∧ listB l = true then finR ts (f.vs.map vv) l else ([], false)
theorem both_nil_t {l : List Bb} (h : listB l = true) : bothR l [] = (l, true) := by
  rw [both_t h rfl (by rw [un_none h]; exact h), un_none h]
theorem both_nil_f {l : List Bb} (h : listB l = false) : bothR l [] = ([], false) := both_f (by rw [h]; simp)
end Go.Proofs.Ytmoalmpcobljkaa.Sb
