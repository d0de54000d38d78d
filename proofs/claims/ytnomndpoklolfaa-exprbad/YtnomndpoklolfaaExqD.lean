/- append of several steps to a row of steps that the call owns; what ExprBad asks, in plain words. -/
import Derived.Test.YtnomndpoklolfaaExqA
import Derived.Test.YtnomndpoklolfaaExqB
import Derived.Test.YtnomndpoklolfaaExpG
namespace Go.Proofs.Ytnomndpoklolfaa.Sb
open Go.RowKit
open V
open Ex (flatO flatO_len flatO_app flatO_oneCell flatO_get LiesO liesO_own liesO_none liesO_lit)

theorem app_ops {w : World} {ops : Array Oper} {rest : List Oper} {o : Oper} {a : Act} {Q : Exit → Act → World → Prop} (hgd : o.guard = none) (s x : Operand)
    (ho : o.op = .call { callee := .builtin .append, args := #[s, x], argTypes := #[22, 22] }) (B : Nat) (v : Value) (xs ys : List Oo) (m nb : Nat)
    (hs : a.eval s = v) (hx : a.eval x = .slice (some ⟨nb, 0, none⟩) m m) (hm : Hid (ys.length = m)) (hown : OwnO w B v xs) (hnew : Hid (w.heap[nb]? = some (.cells (flatO ys).toArray 44))) (hlen : xs.length + m ≤ 100) (hB : B ≤ w.heap.size)
    (h : ∀ v' w', OwnO w' B v' (xs ++ ys) → w.grownBy w' v.ownBlock → (v'.ownBlock = v.ownBlock ∨ v'.ownBlock = some w.heap.size) → wpList Try.prog ops Q rest (a.put o.dst v') w') :
    wpList Try.prog ops Q (o :: rest) a w := by
  obtain ⟨i0, hi, hz0, hz1, hz2⟩ := info_parts infoO
  refine wpList_append_own_at w hgd s x 22 ho B 44 i0 (.agg #[.int .i64 0, .string ⟨#[]⟩, .int .i64 0, .int .i64 0, .string ⟨#[]⟩]) 5 56 Try.underlying22 hi hz0 hz1 hz2 rfl (by decide) v xs.length (flatO xs) hs hown ⟨nb, 0, none⟩ m m (flatO ys) hx (by rw [flatO_len, unhide hm]) (fun j u hu => ?_) (flatO_oneCell ys) (by unfold maxLen; omega) (by omega) hB ?_
  · rw [WideShapes.add_plain, Lib.cell_of_heap (unhide hnew)]
    simpa using hu
  · intro v' w' h1 h2 _ h4
    refine h v' w' ?_ h2 h4
    unfold OwnO
    rw [flatO_app, List.length_append, unhide hm]
    exact h1

/-- One number, and as often one more added. -/
def manyO : Nat → List Oo
  | 0 => [pN 1]
  | k + 1 => manyO k ++ [pN 1, aN]
theorem many_len : ∀ k, (manyO k).length = 2 * k + 1
  | 0 => rfl
  | k + 1 => by rw [manyO, List.length_append, many_len k]; simp; omega
theorem many_take : (manyO 8).take 15 = manyO 7 := by decide
theorem many_eval : evalR [] (manyO 7) = ((1, 8, ⟨#[]⟩), 0) := by decide +kernel

/-- The steps that are none. -/
def badO : List (List Oo) := [[], [aN], [pN 1, aN], [pN 1, pN 1], [(1, ⟨#[120]⟩, zeroV)], [(2, ⟨#[]⟩, zeroV)], [pN 1, pN 1, (3, ⟨#[88]⟩, zeroV)], manyO 8, [(9, ⟨#[]⟩, zeroV)], [pN 1, pN 1, aN, aN]]
theorem bad_none : ∀ l ∈ badO, exprB l = false := by decide +kernel
theorem bad_short : ∀ l ∈ badO, l.length ≤ 20 ∧ ∀ x ∈ l, x.2.1.size ≤ 200 ∧ x.2.2.2.2.size ≤ 200 := by decide +kernel
theorem own_lit {w : World} {B b : Nat} {xs : List Oo} (hB : B ≤ b) (hm : xs.length ≤ 100) (h : w.heap[b]? = some (.cells (flatO xs).toArray 44)) : OwnO w B (.slice (some ⟨b, 0, none⟩) xs.length xs.length) xs := by
  refine ⟨flatO_len xs, Or.inr ⟨b, xs.length, (flatO xs).toArray, rfl, hB, h, Nat.le_refl _, by unfold maxLen; omega, ?_, ?_⟩⟩
  · simp [flatO_len]
  · rw [← flatO_len]; simp
end Go.Proofs.Ytnomndpoklolfaa.Sb
