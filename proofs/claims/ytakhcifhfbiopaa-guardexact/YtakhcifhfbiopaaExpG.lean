/- What expr.Eval answers. -/
import Derived.Test.YtakhcifhfbiopaaExpF
namespace Go.Proofs.Ytakhcifhfbiopaa.Sb
open Go.RowKit
open V
open Ex (RowO LiesO flatO)
open N (doL)

theorem snoc_two {st : List Vv} (h : 2 ≤ st.length) : ∃ pre x y, st = pre ++ [x, y] := by
  have hl : 2 ≤ st.reverse.length := by simpa using h
  have hr := List.reverse_reverse st
  generalize st.reverse = r at hl hr
  match r, hl with
  | y :: x :: r, _ => exact ⟨r.reverse, x, y, by rw [← hr]; simp⟩
theorem stepV_op {b : List Bb} {pre : List Vv} {x y u : Vv} {e : Int} {o : Oo} (h1 : o.1 ≠ 1) (h2 : o.1 ≠ 2) (h : reckR o.1 x y = (u, e)) : stepV b (pre ++ [x, y]).reverse o = if e = 0 then .ok (pre ++ [u]).reverse else .error e := by
  unfold stepV
  rw [if_neg h1, if_neg h2]
  simp only [List.reverse_append, List.reverse_cons, List.reverse_nil, List.nil_append, List.cons_append]
  unfold reckR at h
  by_cases hk : x.1 = 1 ∧ y.1 = 1
  · rw [if_pos hk] at h
    simp only [hk, and_self, if_true]
    by_cases h0 : (doL o.1 x.2.1 y.2.1).2 = 0
    · simp only [h0, if_true] at h ⊢
      cases h; rfl
    · simp only [h0, if_false] at h ⊢
      cases h
      rw [if_neg h0]
  · rw [if_neg hk] at h
    simp only [hk, if_false]
    cases h; rfl

/-- What a step does to the stack. -/
def StepRes (B : Nat) (bs : List Bb) (st : List Vv) (o : Oo) (w : World) (r : Ending) (w' : World) : Prop :=
  (∃ (st' : List Vv) (s' : Option Addr) (n' c' : Nat), stepV bs st.reverse o = .ok st'.reverse ∧ r = .returned (.tuple #[.slice s' n' c', .int .i64 0]) ∧ w'.ownsRow B 23 3 (.slice s' n' c') n' (flatV st') ∧ Below B w w') ∨
  (∃ e : Int, stepV bs st.reverse o = .error e ∧ (e != 0) = true ∧ r = .returned (.tuple #[.slice none 0 0, .int .i64 e]) ∧ Below B w w')

theorem step_any (B : Nat) (s : Option Addr) (n cs : Nat) (st : List Vv) (o : Oo) (a : Option Addr) (len cap : Nat) (bs : List Bb) (w : World) (hB : B ≤ w.heap.size) (hn : n ≤ 100)
    (hs : w.ownsRow B 23 3 (.slice s n cs) n (flatV st)) (hrow : RowB w a bs) (hl : len ≤ bs.length) (hl' : bs.length ≤ len) (h1k : len ≤ 1000) (hL : ∀ x ∈ bs, Lt x) (hd : pushO o = true ∨ pushO o = false ∧ 2 ≤ st.length) :
    Calls Try.prog 40 #[.slice s n cs, .agg #[.int .i64 o.1, .string o.2.1, .int .i64 o.2.2.1, .int .i64 o.2.2.2.1, .string o.2.2.2.2], .slice a len cap] w fun r w' => StepRes B bs st o w r w' := by
  obtain ⟨k, t, v⟩ := o
  rcases hd with hd | ⟨hd, h2⟩
  · simp only [pushO, decide_eq_true_eq] at hd
    rcases hd with rfl | rfl
    · cases hg : getL bs t with
      | none =>
        refine (step_unbound s n cs t v a len cap bs w hrow hl hl' h1k hL (hide (getR_none hg))).mono ?_
        rintro r w' ⟨rfl, hb⟩
        exact Or.inr ⟨5, by simp [stepV, hg], rfl, rfl, hb.mono hB⟩
      | some u =>
        refine (step_bound B s n cs st t u v a len cap bs w hB hn hs hrow hl hl' h1k hL (hide (getR_some hg))).mono ?_
        rintro r w' ⟨s', c', rfl, ho, hb⟩
        exact Or.inl ⟨st ++ [u], s', n + 1, c', by simp [stepV, hg], rfl, ho, hb⟩
    · refine (step_val B s n cs st t v a len cap w hB hn hs).mono ?_
      rintro r w' ⟨s', c', rfl, ho, hb⟩
      exact Or.inl ⟨st ++ [v], s', n + 1, c', by simp [stepV], rfl, ho, hb⟩
  · simp only [pushO, decide_eq_false_iff_not, not_or] at hd
    obtain ⟨k1, k2⟩ := hd
    have e1 : (k == 1) = false := by simpa using k1
    have e2 : (k == 2) = false := by simpa using k2
    obtain ⟨pre, x, y, rfl⟩ := snoc_two h2
    obtain ⟨g, hg, _, _, hnl, _, _⟩ := own_at (i := pre.length) (x := x) hs (by simp)
    subst hg
    have hnm : n = pre.length + 2 := by rw [hnl]; simp
    subst hnm
    obtain ⟨⟨u, e⟩, hr⟩ : ∃ q, reckR k x y = q := ⟨_, rfl⟩
    have hv := stepV_op (b := bs) (pre := pre) (o := (k, t, v)) k1 k2 hr
    by_cases he : e = 0
    · subst he
      rw [if_pos rfl] at hv
      refine (step_op B g pre.length cs pre x y u k t v a len cap w hB (by omega) e1 e2 hs rfl (hide hr)).mono ?_
      rintro r w' ⟨s', c', rfl, ho, hb⟩
      exact Or.inl ⟨pre ++ [u], s', _, c', hv, rfl, ho, hb⟩
    · rw [if_neg he] at hv
      have he' : (e != 0) = true := by simpa using he
      refine (step_take B g pre.length cs pre x y u k e t v a len cap w hB (by omega) e1 e2 he' hs rfl (hide hr)).mono ?_
      rintro r w' ⟨rfl, hb⟩
      exact Or.inr ⟨e, hv, he', rfl, hb⟩

/-- What Eval comes to. -/
def evalR (b : List Bb) (l : List Oo) : Vv × Int := if exprB l = true ∧ listB b = true then evalL b l else (zeroV, 1)

set_option maxHeartbeats 2000000 in
theorem eval_bad (a : Option Addr) (len cap : Nat) (xs : List Oo) (a' : Option Addr) (len' cap' : Nat) (bs : List Bb) (w : World) (hA : LiesO w a len cap xs) (hL : ∀ x ∈ xs, LtO x) (h1k : len ≤ 1000) (hB : Lies w a' len' cap' bs) (hLb : ∀ x ∈ bs, Lt x) (H : exprB xs = false ∨ exprB xs = true ∧ listB bs = false) :
    Calls Try.prog 22 #[.slice a len cap, .slice a' len' cap'] w fun e w' => e = .returned (.tuple #[.agg #[.int .i64 0, .int .i64 0, .string ⟨#[]⟩], .int .i64 1]) ∧ Below w.heap.size w w' := by
  have hc := fun W (hb : Below w.heap.size w W) => echeck_any a len cap xs W (hA.on hb).row hA.le hA.ge hL h1k
  have hd := fun W (hb : Below w.heap.size w W) => scheck_any a' len' cap' bs W (hB.on hb).row hB.le hB.ge hLb
  have hb0 : Below w.heap.size w (w.alloc (bxV zeroV)) := (Below.refl _ _).alloc (Nat.le_refl _) _
  have hz := heap_alloc_new w (bxV zeroV)
  rcases H with H | ⟨H, H'⟩
  · rw [chk_f H] at hc
    have F1 := hc _ hb0
    clear hA hB hL hLb H hc hd
    go_enter Try.func22, Try.ntmps22
    go_wp2_with fail
    refine F1.mono ?_
    rintro e w1 ⟨rfl, hb1⟩
    clear F1
    have hw1 := bt hb0 hb1
    have hz1 := (hb1.block w.heap.size (by simp)).trans hz
    obtain ⟨z0, z1, z2⟩ := trip_of (v := zeroV) hz1
    have f0 := Lib.frozen_of_heap hz1 0
    have f1 := Lib.frozen_of_heap hz1 1
    have f2 := Lib.frozen_of_heap hz1 2
    clear hz hz1 hb0 hb1
    go_wp2_with fail
    refine bodyPost_ret (v := .tuple #[.agg #[.int .i64 0, .int .i64 0, .string ⟨#[]⟩], .int .i64 1]) (by simp [results, Try.results22, go_sem, z0, z1, z2]) rfl ?_
    exact ⟨rfl, ((hw1.setCell (p := ⟨w.heap.size, 0, none⟩) (Nat.le_refl _) _).setCell (p := ⟨w.heap.size, 1, none⟩) (Nat.le_refl _) _).setCell (p := ⟨w.heap.size, 2, none⟩) (Nat.le_refl _) _⟩
  · rw [chk_t H] at hc
    rw [chk_f H'] at hd
    have F1 := hc _ hb0
    clear hA hB hL hLb H H' hc
    go_enter Try.func22, Try.ntmps22
    go_wp2_with fail
    refine F1.mono ?_
    rintro e w1 ⟨rfl, hb1⟩
    clear F1
    have hw1 := bt hb0 hb1
    have F2 := hd _ hw1
    have hz1 := (hb1.block w.heap.size (by simp)).trans hz
    have hs1 : w.heap.size < w1.heap.size := by have := hb1.size; simp at this; omega
    clear hd hb0 hb1 hz
    go_wp2_with fail
    refine F2.mono ?_
    rintro e w2 ⟨rfl, hb2⟩
    clear F2
    have hw2 := bt hw1 hb2
    have hz2 := (hb2.block w.heap.size hs1).trans hz1
    obtain ⟨z0, z1, z2⟩ := trip_of (v := zeroV) hz2
    have f0 := Lib.frozen_of_heap hz2 0
    have f1 := Lib.frozen_of_heap hz2 1
    have f2 := Lib.frozen_of_heap hz2 2
    clear hz1 hz2 hb2
    go_wp2_with fail
    refine bodyPost_ret (v := .tuple #[.agg #[.int .i64 0, .int .i64 0, .string ⟨#[]⟩], .int .i64 1]) (by simp [results, Try.results22, go_sem, z0, z1, z2]) rfl ?_
    exact ⟨rfl, ((hw2.setCell (p := ⟨w.heap.size, 0, none⟩) (Nat.le_refl _) _).setCell (p := ⟨w.heap.size, 1, none⟩) (Nat.le_refl _) _).setCell (p := ⟨w.heap.size, 2, none⟩) (Nat.le_refl _) _⟩
end Go.Proofs.Ytakhcifhfbiopaa.Sb
