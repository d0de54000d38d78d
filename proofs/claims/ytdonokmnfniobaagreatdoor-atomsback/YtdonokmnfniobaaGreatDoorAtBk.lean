/- What the walk of constablelaw10.AtomsBack leans on: what stands behind, texts that are compared. -/
import Derived.Test.YtdonokmnfniobaaGreatDoorAtW
import Derived.Test.YtdonokmnfniobaaGreatDoorBasE
namespace Go.Proofs.YtdonokmnfniobaaGreatDoor.Sb
open Go.RowKit
open V
open Ex (RowO LiesO flatO)

def behV : List Value := [Value.string ⟨#[]⟩, Value.string ⟨#[32, 46]⟩, Value.string ⟨#[32, 41]⟩, Value.string ⟨#[32, 44]⟩, Value.string ⟨#[32, 93]⟩, Value.string ⟨#[32, 61, 62, 32, 112]⟩]
theorem behV_at : ∀ t (h : t < 6), behV[t]'(by simp [behV]; omega) = .string ⟨(glue (behindPs t)).toArray⟩ := by
  intro t h
  have : t = 0 ∨ t = 1 ∨ t = 2 ∨ t = 3 ∨ t = 4 ∨ t = 5 := by omega
  rcases this with rfl | rfl | rfl | rfl | rfl | rfl <;> rfl
theorem idx6 (h : Int) : 0 ≤ wrap64 ((IntKind.u64.wrap h).tmod 6) ∧ wrap64 ((IntKind.u64.wrap h).tmod 6) < 6 := by
  have h0 : 0 ≤ IntKind.u64.wrap h := by simp [IntKind.wrap, IntKind.bits, IntKind.signed]; omega
  generalize IntKind.u64.wrap h = m at h0
  rw [Int.tmod_eq_emod_of_nonneg h0]
  have e1 : wrap64 (m % 6) = m % 6 := by simp [wrap64]; omega
  rw [e1]
  omega
theorem bytes_inj {a b : ByteArray} (h : a.data.toList = b.data.toList) : a = b := by
  refine toList_inj.1 ?_
  rw [ByteArray.toList_eq, ByteArray.toList_eq, h]
theorem size_of (l : List UInt8) : (⟨l.toArray⟩ : ByteArray).size = l.length := rfl
theorem cat_list (s z : ByteArray) : (s ++ z).data.toList = s.data.toList ++ z.data.toList := by simp [ByteArray.data_append]
theorem cat_size (s z : ByteArray) : (s ++ z).size = s.size + z.size := by simp [ByteArray.size_append]
/-- Two texts are the same just if what they are of is. -/
theorem same_text {na nb : ByteArray} {ta tb : List Bb} {s t : ByteArray} (ha : rightA na ta = true) (hb : rightA nb tb = true) (hs : (⟨(textA (na.data.toList, ta)).toArray⟩ : ByteArray) = s) (ht : (⟨(textA (nb.data.toList, tb)).toArray⟩ : ByteArray) = t) : (s.toList == t.toList) = decide (na = nb ∧ ta = tb) := by
  rw [bytes_eq, decide_eq_decide]
  constructor
  · intro e
    rw [← hs, ← ht] at e
    have e2 : textA (na.data.toList, ta) = textA (nb.data.toList, tb) := by
      have := congrArg (fun z : ByteArray => z.data.toList) e
      simpa using this
    have e3 := textA_inj (a := (na.data.toList, ta)) (b := (nb.data.toList, tb)) ha hb e2
    exact ⟨bytes_inj (Prod.mk.inj e3).1, (Prod.mk.inj e3).2⟩
  · rintro ⟨rfl, rfl⟩
    rw [← hs, ← ht]
theorem same_expr {xs ys : List Oo} {s t : ByteArray} (ha : exprB xs = true) (hb : exprB ys = true) (hs : (⟨(textX xs).toArray⟩ : ByteArray) = s) (ht : (⟨(textX ys).toArray⟩ : ByteArray) = t) : (s.toList == t.toList) = decide (xs = ys) := by
  rw [bytes_eq, decide_eq_decide]
  constructor
  · intro e
    rw [← hs, ← ht] at e
    have e2 : textX xs = textX ys := by
      have := congrArg (fun z : ByteArray => z.data.toList) e
      simpa using this
    exact textX_inj ha hb e2
  · rintro rfl
    rw [← hs, ← ht]
/-- Two boxes with atoms, as they are handed in. -/
theorem boxes2 (w : World) (na : ByteArray) (va : Value) (nb : ByteArray) (vb : Value) : AB ((w.alloc (.cells #[.string na, va] 24)).alloc (.cells #[.string nb, vb] 24)) w.heap.size na va ∧ AB ((w.alloc (.cells #[.string na, va] 24)).alloc (.cells #[.string nb, vb] 24)) (w.heap.size + 1) nb vb ∧ Below w.heap.size w ((w.alloc (.cells #[.string na, va] 24)).alloc (.cells #[.string nb, vb] 24)) := by
  refine ⟨(AB.new w na va).alloc _, ?_, ((Below.refl _ _).alloc (Nat.le_refl _) _).alloc (by simp) _⟩
  have := AB.new (w.alloc (.cells #[.string na, va] 24)) nb vb
  rwa [show (w.alloc (.cells #[.string na, va] 24)).heap.size = w.heap.size + 1 by simp] at this
end Go.Proofs.YtdonokmnfniobaaGreatDoor.Sb
