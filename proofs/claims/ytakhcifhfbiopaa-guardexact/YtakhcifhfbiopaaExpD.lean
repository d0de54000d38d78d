/- What expr.reckon answers. -/
import Derived.Test.YtakhcifhfbiopaaExpC
namespace Go.Proofs.Ytakhcifhfbiopaa.Sb
open Go.RowKit
open V
open N (doL)

/-- What two come to, or why not. -/
def reckR (k : Int) (x y : Vv) : Vv × Int :=
  if x.1 = 1 ∧ y.1 = 1 then (if (doL k x.2.1 y.2.1).2 = 0 then ((1, (doL k x.2.1 y.2.1).1, ⟨#[]⟩), 0) else (zeroV, (doL k x.2.1 y.2.1).2)) else (zeroV, 3)

abbrev bxV (v : Vv) : Obj := .cells #[.int .i64 v.1, .int .i64 v.2.1, .string v.2.2] 23

theorem below3 (w : World) (a b c : Obj) : Below w.heap.size w (((w.alloc a).alloc b).alloc c) := by
  have h1 := (Below.refl w.heap.size w).alloc (Nat.le_refl _) a
  have h2 := h1.alloc h1.size b
  exact h2.alloc h2.size c

set_option maxHeartbeats 1000000 in
theorem reck_kind (k : Int) (x y : Vv) (w : World) (h : (x.1 != 1) = true ∨ (x.1 != 1) = false ∧ (y.1 != 1) = true) :
    Calls Try.prog 58 #[.int .i64 k, .agg #[.int .i64 x.1, .int .i64 x.2.1, .string x.2.2], .agg #[.int .i64 y.1, .int .i64 y.2.1, .string y.2.2]] w fun e w' => e = .returned (.tuple #[.agg #[.int .i64 0, .int .i64 0, .string ⟨#[]⟩], .int .i64 3]) ∧ Below w.heap.size w w' := by
  have hb := below3 w (bxV x) (bxV y) (bxV zeroV)
  rcases h with h | ⟨h, h'⟩
  all_goals
    go_enter Try.func58, Try.ntmps58
    go_wp2_with fail
    refine bodyPost_ret (v := .tuple #[.agg #[.int .i64 0, .int .i64 0, .string ⟨#[]⟩], .int .i64 3]) (by simp [results, Try.results58, go_sem]) rfl ?_
    exact ⟨rfl, hb⟩

set_option maxHeartbeats 1000000 in
theorem reck_do (k a b v e : Int) (s t : ByteArray) (w : World) (he : (e != 0) = true) (H : Hid (doL k a b = (v, e))) :
    Calls Try.prog 58 #[.int .i64 k, .agg #[.int .i64 1, .int .i64 a, .string s], .agg #[.int .i64 1, .int .i64 b, .string t]] w fun r w' => r = .returned (.tuple #[.agg #[.int .i64 0, .int .i64 0, .string ⟨#[]⟩], .int .i64 e]) ∧ Below w.heap.size w w' := by
  have hb := below3 w (bxV (1, a, s)) (bxV (1, b, t)) (bxV zeroV)
  go_enter Try.func58, Try.ntmps58
  go_wp2_with fail
  refine (N.do_any k a b v e _ H).mono ?_
  rintro r w' ⟨rfl, rfl⟩
  go_wp2_with fail
  refine bodyPost_ret (v := .tuple #[.agg #[.int .i64 0, .int .i64 0, .string ⟨#[]⟩], .int .i64 e]) (by simp [results, Try.results58, go_sem]) rfl ?_
  exact ⟨rfl, hb⟩

set_option maxHeartbeats 1000000 in
theorem reck_ok (k a b v : Int) (s t : ByteArray) (w : World) (H : Hid (doL k a b = (v, 0))) :
    Calls Try.prog 58 #[.int .i64 k, .agg #[.int .i64 1, .int .i64 a, .string s], .agg #[.int .i64 1, .int .i64 b, .string t]] w fun r w' => r = .returned (.tuple #[.agg #[.int .i64 1, .int .i64 v, .string ⟨#[]⟩], .int .i64 0]) ∧ Below w.heap.size w w' := by
  go_enter Try.func58, Try.ntmps58
  go_wp2_with fail
  refine (N.do_any k a b v 0 _ H).mono ?_
  rintro r w' ⟨rfl, rfl⟩
  go_wp2_with fail
  refine bodyPost_ret (v := .tuple #[.agg #[.int .i64 1, .int .i64 v, .string ⟨#[]⟩], .int .i64 0]) (by simp [results, Try.results58, go_sem]) rfl ?_
  exact ⟨rfl, below3 w _ _ _⟩

theorem reckon_any (k : Int) (x y u : Vv) (e : Int) (w : World) (H : Hid (reckR k x y = (u, e))) :
    Calls Try.prog 58 #[.int .i64 k, .agg #[.int .i64 x.1, .int .i64 x.2.1, .string x.2.2], .agg #[.int .i64 y.1, .int .i64 y.2.1, .string y.2.2]] w fun r w' => r = .returned (.tuple #[.agg #[.int .i64 u.1, .int .i64 u.2.1, .string u.2.2], .int .i64 e]) ∧ Below w.heap.size w w' := by
  have h := unhide H
  clear H
  obtain ⟨k1, a, s⟩ := x
  obtain ⟨k2, b, t⟩ := y
  unfold reckR at h
  by_cases h1 : k1 = 1
  · subst h1
    by_cases h2 : k2 = 1
    · subst h2
      rw [if_pos ⟨rfl, rfl⟩] at h
      by_cases h0 : (doL k a b).2 = 0
      · simp only [h0, if_true] at h
        cases h
        exact reck_ok k a b _ s t w (hide (Prod.ext rfl h0))
      · simp only [h0, if_false] at h
        cases h
        exact reck_do k a b (doL k a b).1 _ s t w (by simpa using h0) (hide rfl)
    · rw [if_neg (fun h => h2 h.2)] at h
      cases h
      exact reck_kind k (1, a, s) (k2, b, t) w (Or.inr ⟨rfl, by simpa using h2⟩)
  · rw [if_neg (fun h => h1 h.1)] at h
    cases h
    exact reck_kind k (k1, a, s) (k2, b, t) w (Or.inl (by simpa using h1))
end Go.Proofs.Ytakhcifhfbiopaa.Sb
