/- What val.read, val.Parse and val.Compare answer. -/
import Derived.Test.YtaapeleoiclplaaDoorOwnD
namespace Go.Proofs.YtaapeleoiclplaaDoor
open Go.RowKit
open V

theorem valL_empty {l : List UInt8} (h : l.length = 0) : valL l = none := by unfold valL; rw [if_pos h]
theorem valL_long {l : List UInt8} (h : 122 < l.length) : valL l = none := by
  unfold valL; rw [if_neg (by omega), if_pos h]
theorem valL_str (s : ByteArray) (h0 : 0 < s.size) (h1 : s.size ≤ 122) (h : (s[0].toNat : Int) = 34) : valL s.data.toList = (unqL s.data.toList).map fun r => (3, 0, r) := by
  have hl : s.data.toList.length = s.size := by simp
  have a : s[0].toNat = 34 := by omega
  unfold valL
  rw [hl, get_data s 0 h0, if_neg (by omega), if_neg (by omega), if_pos (by simpa using a)]
theorem below_set3 {B : Nat} {w w1 : World} (h : Below B w w1) (a b c : Value) (o : Nat) (ho : B ≤ o) : Below B w (((w1.setCell ⟨o, 0, none⟩ a).setCell ⟨o, 1, none⟩ b).setCell ⟨o, 2, none⟩ c) :=
  ((h.setCell (p := ⟨o, 0, none⟩) ho _).setCell (p := ⟨o, 1, none⟩) ho _).setCell (p := ⟨o, 2, none⟩) ho _

/-- A block that the call laid stands behind whatever keeps what was there. -/
theorem kept_new {w w1 : World} {o : Obj} (hb : Below (w.alloc o).heap.size (w.alloc o) w1) : w1.heap[w.heap.size]? = some o := by
  rw [hb.block w.heap.size (by simp)]
  exact heap_alloc_new w o
theorem kept_old {w w1 : World} {o o' : Obj} {k : Nat} (hb : Below (w.alloc o).heap.size (w.alloc o) w1) (h : w.heap[k]? = some o') : w1.heap[k]? = some o' := by
  have hk : k < w.heap.size := by
    rcases Nat.lt_or_ge k w.heap.size with h' | h'
    · exact h'
    · simp [Array.getElem?_eq_none h'] at h
  rw [hb.block k (by simp; omega), Lib.alloc_old w _ k hk]
  exact h

/-- What val.read may answer: whether it read, and what. -/
def Reads (l : List UInt8) (e : Ending) : Prop :=
  ∃ (k n : Int) (r : List UInt8) (b : Bool), e = .returned (.tuple #[.agg #[.int .i64 k, .int .i64 n, .string ⟨r.toArray⟩], .bool b]) ∧ (b = true → valL l = some (k, n, r)) ∧ (b = false → valL l = none) ∧ r.length ≤ 40000

/-- What val.Parse may answer. -/
def Parses (l : List UInt8) (e : Ending) : Prop :=
  match parseL l with
  | some (k, n, r) => e = .returned (.tuple #[.agg #[.int .i64 k, .int .i64 n, .string ⟨r.toArray⟩], .int .i64 0])
  | none => e = .returned (.tuple #[.agg #[.int .i64 0, .int .i64 0, .string ⟨#[]⟩], .int .i64 7])
theorem Parses.no {l : List UInt8} (h : parseL l = none) : Parses l (.returned (.tuple #[.agg #[.int .i64 0, .int .i64 0, .string ⟨#[]⟩], .int .i64 7])) := by
  unfold Parses; rw [h]
theorem Parses.ok {l r : List UInt8} {k n : Int} (h : parseL l = some (k, n, r)) : Parses l (.returned (.tuple #[.agg #[.int .i64 k, .int .i64 n, .string ⟨r.toArray⟩], .int .i64 0])) := by
  unfold Parses; rw [h]
theorem parseL_none {l : List UInt8} (h : valL l = none) : parseL l = none := by unfold parseL; rw [h]
theorem parseL_bad {l r : List UInt8} {k n : Int} (h : valL l = some (k, n, r)) (hr : rightB k n r = false) : parseL l = none := by unfold parseL; rw [h]; simp [hr]
theorem parseL_good {l r : List UInt8} {k n : Int} (h : valL l = some (k, n, r)) (hr : rightB k n r = true) : parseL l = some (k, n, r) := by unfold parseL; rw [h]; simp [hr]

end Go.Proofs.YtaapeleoiclplaaDoor
