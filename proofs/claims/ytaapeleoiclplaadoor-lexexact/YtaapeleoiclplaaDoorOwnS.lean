/- What the document's own functions Strings, Values and Value return. -/
import Derived.Test.YtaapeleoiclplaaDoorOwnR
namespace Go.Proofs.YtaapeleoiclplaaDoor
open Go.RowKit
open V

theorem drop_cons (s : ByteArray) (k : Nat) (h : k < s.size) : s.data.toList.drop k = s[k] :: s.data.toList.drop (k + 1) := by
  rw [List.drop_eq_getElem_cons (by simpa using h)]; rfl
theorem drop_end (s : ByteArray) (k : Nat) (h : s.size ≤ k) : s.data.toList.drop k = [] := List.drop_eq_nil_of_le (by simpa using h)
theorem byte_wrap (c : UInt8) : IntKind.i64.wrap (c.toNat : Int) = c.toNat := by
  have := c.toNat_lt
  simp [IntKind.wrap, IntKind.bits, IntKind.signed]; omega

theorem in_byte (c : UInt8) : inB (c.toNat : Int) 32 126 = strC c := rfl

end Go.Proofs.YtaapeleoiclplaaDoor
