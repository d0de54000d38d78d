/- All that MatchGround asks of a match, in plain words; its boxes. -/
import Derived.Test.YtmoalmpcobljkaaMatW
namespace Go.Proofs.Ytmoalmpcobljkaa.Sb
open Go.RowKit
open V

theorem three_of (w : World) (A B C : Obj) : Below w.heap.size w (((w.alloc A).alloc B).alloc C) ∧ (((w.alloc A).alloc B).alloc C).heap[w.heap.size]? = some A ∧ (((w.alloc A).alloc B).alloc C).heap[w.heap.size + 1]? = some B ∧ (((w.alloc A).alloc B).alloc C).heap[w.heap.size + 1 + 1]? = some C := by
  have s1 : (w.alloc A).heap.size = w.heap.size + 1 := by simp
  have s2 : ((w.alloc A).alloc B).heap.size = w.heap.size + 1 + 1 := by simp
  have h0 := heap_alloc_new w A
  have h1 := heap_alloc_new (w.alloc A) B
  have h2 := heap_alloc_new ((w.alloc A).alloc B) C
  rw [s1] at h1
  rw [s2] at h2
  refine ⟨(((Below.refl _ _).alloc (Nat.le_refl _) _).alloc (by omega) _).alloc (by omega) _, ?_, ?_, h2⟩
  · rw [Lib.alloc_old _ _ _ (by omega), Lib.alloc_old _ _ _ (by omega)]; exact h0
  · rw [Lib.alloc_old _ _ _ (by omega)]; exact h1
/-- The law's three boxes: the atom, two facts. -/
structure B3 (W : World) (b : Nat) (n : ByteArray) (a : Option Addr) (len cap : Nat) (ts : List Bb) (f g : Fb) : Prop where
  a0 : W.cell? ⟨b, 0, none⟩ = some (.string n)
  a1 : W.cell? ⟨b, 1, none⟩ = some (.slice a len cap)
  b0 : W.cell? ⟨b + 1, 0, none⟩ = some (.string f.n)
  b1 : W.cell? ⟨b + 1, 1, none⟩ = some (.slice f.a f.len f.cap)
  c0 : W.cell? ⟨b + 1 + 1, 0, none⟩ = some (.string g.n)
  c1 : W.cell? ⟨b + 1 + 1, 1, none⟩ = some (.slice g.a g.len g.cap)
  t : Lies W a len cap ts
  f : f.In W
  g : g.In W
theorem B3.on {W w1 : World} {b : Nat} {n : ByteArray} {a : Option Addr} {len cap : Nat} {ts : List Bb} {f g : Fb} (T : B3 W b n a len cap ts f g) (hb : Below W.heap.size W w1) : B3 w1 b n a len cap ts f g :=
  ⟨cell_on hb T.a0, cell_on hb T.a1, cell_on hb T.b0, cell_on hb T.b1, cell_on hb T.c0, cell_on hb T.c1, T.t.on hb, T.f.on hb, T.g.on hb⟩
theorem B3.cs {W : World} {b : Nat} {n : ByteArray} {a : Option Addr} {len cap : Nat} {ts : List Bb} {f g : Fb} (T : B3 W b n a len cap ts f g) : W.cell? ⟨b, 0, none⟩ = some (.string n) ∧ W.cell? ⟨b, 1, none⟩ = some (.slice a len cap) ∧ W.cell? ⟨b + 1, 0, none⟩ = some (.string f.n) ∧ W.cell? ⟨b + 1, 1, none⟩ = some (.slice f.a f.len f.cap) ∧ W.cell? ⟨b + 1 + 1, 0, none⟩ = some (.string g.n) ∧ W.cell? ⟨b + 1 + 1, 1, none⟩ = some (.slice g.a g.len g.cap) :=
  ⟨T.a0, T.a1, T.b0, T.b1, T.c0, T.c1⟩
theorem b3_of (w : World) (n : ByteArray) (a : Option Addr) (len cap : Nat) (ts : List Bb) (f g : Fb) (hA : Lies w a len cap ts) (hf : f.In w) (hg : g.In w) : B3 (((w.alloc (bxA n a len cap)).alloc (bxF f)).alloc (bxF g)) w.heap.size n a len cap ts f g := by
  obtain ⟨hb, k0, k1, k2⟩ := three_of w (bxA n a len cap) (bxF f) (bxF g)
  obtain ⟨x0, x1⟩ := pair_of k0
  obtain ⟨y0, y1⟩ := pair_of k1
  obtain ⟨z0, z1⟩ := pair_of k2
  exact ⟨x0, x1, y0, y1, z0, z1, hA.on hb, hf.on hb, hg.on hb⟩
theorem keepFact_x (f g : Fb) (q : Bool) (w : World) (hf : f.In w) (hg : g.In w) (h20 : f.len ≤ 1000) (H : Hid (decide (f.l = g.l) = q)) :
    Calls Try.prog 13 #[.agg #[.string f.n, .slice f.a f.len f.cap], .agg #[.string g.n, .slice g.a g.len g.cap]] w fun e w' => e = .returned (.bool q) ∧ Below w.heap.size w w' := by
  have := keepFact_fb f g w hf hg h20
  rw [unhide H] at this
  exact this
theorem keep_t (a a' : Option Addr) (len cap len' cap' : Nat) (xs ys : List Bb) (w : World) (hx : Lies w a len cap xs) (hy : Lies w a' len' cap' ys) (h1k : len ≤ 1000) (H : xs = ys) :
    Calls Try.prog 14 #[.slice a len cap, .slice a' len' cap'] w fun e w' => e = .returned (.bool true) ∧ Below w.heap.size w w' := by
  have := keepBinds_any a a' len len' cap cap' xs ys w hx.row hy.row hx.le hx.ge hy.le hy.ge h1k
  rw [decide_eq_true H] at this
  exact this

/-- What a match says. -/
theorem one_ok {n : ByteArray} {ts : List Bb} {f : Fb} {l us : List Bb} (h : oneR n ts f l = (us, true)) : rightA n ts = true ∧ rightF f.l = true ∧ n = f.n ∧ ts.length = f.vs.length ∧ listB l = true ∧ matL ts (f.vs.map vv) l = some us := by
  unfold oneR at h
  split at h
  · rename_i g
    exact ⟨g.1, g.2.1, g.2.2.1, g.2.2.2.1, g.2.2.2.2, fin_ok h⟩
  · simp at h
theorem one_no {n : ByteArray} {ts : List Bb} {f : Fb} {l us : List Bb} (h : oneR n ts f l = (us, false)) : us = [] := by
  unfold oneR at h
  split at h
  · exact (fin_no h).2
  · simp only [Prod.mk.injEq, and_true] at h; exact h.symm
theorem lt_right {x : Bb} (h : rightBd x = true) : Lt x := by
  obtain ⟨n, k, m, s⟩ := x
  simp only [rightBd, rightVv, Bool.and_eq_true] at h
  refine ⟨?_, ?_⟩
  · have h1 := h.1
    have e : n.size = n.data.toList.length := by simp
    show n.size ≤ 200
    rw [e]
    generalize n.data.toList = l at h1
    cases l with
    | nil => simp
    | cons c r => simp only [varB, Bool.and_eq_true, decide_eq_true_eq] at h1; simp; omega
  · have h1 := h.2
    have e : s.size = s.data.toList.length := by simp
    show s.size ≤ 200
    rw [e]
    generalize s.data.toList = l at h1
    simp only [rightB] at h1
    split at h1
    · simp only [Bool.and_eq_true, List.isEmpty_iff] at h1; rw [h1.1]; simp
    · split at h1
      · simp only [Bool.and_eq_true] at h1
        have := h1.2
        cases l with
        | nil => simp
        | cons c r => simp only [symB, Bool.and_eq_true, decide_eq_true_eq] at this; simp at this ⊢; omega
      · split at h1
        · simp only [Bool.and_eq_true] at h1
          have := h1.2
          simp only [strB, Bool.and_eq_true, decide_eq_true_eq] at this
          omega
        · simp at h1
theorem lt_list {l : List Bb} (h : listB l = true) : ∀ x ∈ l, Lt x := fun _ hx => lt_right (list_right h hx)
/-- All that MatchGround asks of a match. -/
theorem ground_facts {n : ByteArray} {ts us : List Bb} {f : Fb} (h : oneR n ts f [] = (us, true)) : listB us = true ∧ grR n ts us = (n, f.vs.map vv, 0) ∧ oneR n ts f us = (us, true) ∧ us.length = (varsL ts).length ∧ (∀ x ∈ varsL ts, ∃ v, getR us x = (v, true)) ∧ ∀ g : Fb, ∃ k, oneR n ts g us = (k, decide (f.l = g.l)) := by
  obtain ⟨h1, h2, h3, h4, h5, h6⟩ := one_ok h
  have hv := (right_vals h2).2
  have ht := (right_terms h1).2.2
  have hl := mat_list h5 ht hv h6
  have ha := mat_again h5 ht hv h6
  refine ⟨hl, gr_some h1 hl (mat_ground h5 ht hv h6), ?_, mat_count ht hv h6, fun x hx => ?_, fun g => ?_⟩
  · rw [one_yes h1 h2 h3 h4 hl, fin_some ha]
  · obtain ⟨⟨t, htm, rfl⟩, hz⟩ := mem_vars.1 hx
    obtain ⟨i, hi, rfl⟩ := List.getElem_of_mem htm
    exact ⟨_, getR_some (mat_get h5 ht hv h6 hi (by rw [List.length_map, ← h4]; exact hi) hz)⟩
  · by_cases e : f.l = g.l
    · rw [decide_eq_true e]
      obtain ⟨e1, e2⟩ := fl_iff.1 e
      refine ⟨us, ?_⟩
      rw [one_yes h1 (by rw [← e]; exact h2) (h3.trans e1) (by rw [h4]; have := congrArg List.length e2; simpa using this) hl, ← e2, fin_some ha]
    · rw [decide_eq_false e]
      obtain ⟨⟨k, q⟩, hk⟩ : ∃ r, oneR n ts g us = r := ⟨_, rfl⟩
      cases q with
      | false => exact ⟨k, hk⟩
      | true =>
        obtain ⟨g1, g2, g3, g4, g5, g6⟩ := one_ok hk
        have := mat_only h5 ht hv h6 (right_vals g2).2 g6
        exact absurd (fl_iff.2 ⟨h3.symm.trans g3, this.symm⟩) e
end Go.Proofs.Ytmoalmpcobljkaa.Sb
