/- The first of three numbers that is not nought. No program in it. -/
import Derived.Test.YtmoalmpcobljkaaOwnD
import Derived.Deep.RegionHeld3
import Derived.Deep.QuietTactic
import Derived.BigQuiet
namespace Go.Proofs.Ytmoalmpcobljkaa
open Go.RowKit
open V

def or3 (x y z : Int) : Int := if x ≠ 0 then x else if y ≠ 0 then y else z
theorem or3_x {x y z : Int} (h : x ≠ 0) : or3 x y z = x := if_pos h
theorem or3_y {y z : Int} (h : y ≠ 0) : or3 0 y z = y := by simp [or3, h]
theorem or3_z {z : Int} : or3 0 0 z = z := by simp [or3]

end Go.Proofs.Ytmoalmpcobljkaa
