/- The pattern that the law's wakes reads. No program in it. -/
import Derived.Test.YtcjnhhbcleljmaaGreatDoorForZa
import Derived.Test.YtcjnhhbcleljmaaGreatDoorRvZd
import Derived.KernelRfl
namespace Go.Proofs.YtcjnhhbcleljmaaGreatDoor.V

/-- pattern a: r(X) => (not p(X) since q(X)). -/
def pkT : List UInt8 := [112, 97, 116, 116, 101, 114, 110, 32, 97, 58, 32, 114, 40, 88, 41, 32, 61, 62, 32, 40, 110, 111, 116, 32, 112, 40, 88, 41, 32, 115, 105, 110, 99, 101, 32, 113, 40, 88, 41, 41, 46]
/-- (not p(X) since q(X)) -/
def pkU : List UInt8 := [40, 110, 111, 116, 32, 112, 40, 88, 41, 32, 115, 105, 110, 99, 101, 32, 113, 40, 88, 41, 41]
def pkP : Pp := ([97], ([114], [(⟨#[88]⟩, zeroV)]), [(1, ([112], [(⟨#[88]⟩, zeroV)]), 0, 0), (2, noA, 0, 0), (1, ([113], [(⟨#[88]⟩, zeroV)]), 0, 0), (8, noA, 1, 2)])
def pkK : List Kt := [(1, [112, 97, 116, 116, 101, 114, 110]), (1, [97]), (5, [58]), (1, [114]), (5, [40]), (2, [88]), (5, [41]), (5, [61, 62]), (5, [40]), (1, [110, 111, 116]), (1, [112]), (5, [40]), (2, [88]), (5, [41]), (1, [115, 105, 110, 99, 101]), (1, [113]), (5, [40]), (2, [88]), (5, [41]), (5, [41]), (5, [46])]
theorem pk_lex : lexK pkT = some pkK := by kernel_rfl
theorem pk_read : readP pkK 0 = .ok (pkP, pkK.length) := by kernel_rfl
theorem pk_right : rightP pkP = true := by kernel_rfl
theorem pk_text : textP pkP = pkT := by kernel_rfl
theorem pk_form : textN 0 pkP.2.2 = pkU := by kernel_rfl
theorem pk_grow : growL [] pkP.2.2 = some [(0, 1), (0, 2), (2, 1), (0, 3)] := by kernel_rfl
theorem pk_fm : rightFm pkP.2.2 = true := by kernel_rfl
end Go.Proofs.YtcjnhhbcleljmaaGreatDoor.V
