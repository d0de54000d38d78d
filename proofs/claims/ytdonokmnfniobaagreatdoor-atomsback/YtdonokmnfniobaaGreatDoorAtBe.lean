/- The walk of constablelaw10.AtomsBack: it answers true, whatever the atoms, the expressions and the number. -/
import Derived.Test.YtdonokmnfniobaaGreatDoorAtBa
import Derived.Test.YtdonokmnfniobaaGreatDoorAtBb
import Derived.Test.YtdonokmnfniobaaGreatDoorAtBc
import Derived.Test.YtdonokmnfniobaaGreatDoorAtBd
namespace Go.Proofs.YtdonokmnfniobaaGreatDoor.Sb
open Go.RowKit
open V
open Ex (RowO LiesO flatO)

theorem back_law (na : ByteArray) (aa : Option Addr) (la ca : Nat) (ta : List Bb) (nb : ByteArray) (ab : Option Addr) (lb cb : Nat) (tb : List Bb) (xa : Option Addr) (xl xc : Nat) (xs : List Oo) (ya : Option Addr) (yl yc : Nat) (ys : List Oo) (h : Int) (w : World) (he : Env w) (hA : Lies w aa la ca ta) (hB : Lies w ab lb cb tb) (hX : LiesO w xa xl xc xs) (hY : LiesO w ya yl yc ys) :
    Calls Tryz.prog 3 #[.agg #[.string na, .slice aa la ca], .agg #[.string nb, .slice ab lb cb], .slice xa xl xc, .slice ya yl yc, .int .i64 h] w fun e w' => e = .returned (.bool true) ∧ Below w.heap.size w w' := by
  obtain ⟨ra, hra⟩ : ∃ r, rightA na ta = r := ⟨_, rfl⟩
  obtain ⟨rb, hrb⟩ : ∃ r, rightA nb tb = r := ⟨_, rfl⟩
  cases ra with
  | true =>
    cases rb with
    | true => exact back_a na aa la ca ta nb ab lb cb tb xa xl xc xs ya yl yc ys h w he hA hB hX hY (hide hra) (hide hrb)
    | false => exact back_b na aa la ca ta nb ab lb cb tb xa xl xc xs ya yl yc ys h w he hA hB hX hY (hide hra) (hide hrb)
  | false =>
    cases rb with
    | true => exact back_c na aa la ca ta nb ab lb cb tb xa xl xc xs ya yl yc ys h w he hA hB hX hY (hide hra) (hide hrb)
    | false => exact back_d na aa la ca ta nb ab lb cb tb xa xl xc xs ya yl yc ys h w he hA hB hX hY (hide hra) (hide hrb)
end Go.Proofs.YtdonokmnfniobaaGreatDoor.Sb
