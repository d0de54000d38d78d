/- The rule that the law's wakes reads, and the text that is none. No program in it. -/
import Derived.Test.YtcjnhhbcleljmaaGreatDoorRunA
import Derived.KernelRfl
namespace Go.Proofs.YtcjnhhbcleljmaaGreatDoor.V

/-- rule a -5: p(X), not q(X), [X < 3] -> +r((X + 1)), drop 0. -/
def rkT : List UInt8 := [114, 117, 108, 101, 32, 97, 32, 45, 53, 58, 32, 112, 40, 88, 41, 44, 32, 110, 111, 116, 32, 113, 40, 88, 41, 44, 32, 91, 88, 32, 60, 32, 51, 93, 32, 45, 62, 32, 43, 114, 40, 40, 88, 32, 43, 32, 49, 41, 41, 44, 32, 100, 114, 111, 112, 32, 48, 46]
/-- rule a 0: not p -> +q. -/
def rkU : List UInt8 := [114, 117, 108, 101, 32, 97, 32, 48, 58, 32, 110, 111, 116, 32, 112, 32, 45, 62, 32, 43, 113, 46]
def rkR : Rp := ([97], -5, [(1, ([112], [(⟨#[88]⟩, zeroV)]), 0, [], []), (2, ([113], [(⟨#[88]⟩, zeroV)]), 0, [], []), (3, noA, 3, [(1, ⟨#[88]⟩, zeroV)], [(2, ⟨#[]⟩, 1, 3, ⟨#[]⟩)])], [(1, [114], [[(1, ⟨#[88]⟩, zeroV), (2, ⟨#[]⟩, 1, 1, ⟨#[]⟩), (3, ⟨#[]⟩, zeroV)]], 0), (2, [], [], 0)])
def rkK : List Kt := [(1, [114, 117, 108, 101]), (1, [97]), (3, [45, 53]), (5, [58]), (1, [112]), (5, [40]), (2, [88]), (5, [41]), (5, [44]), (1, [110, 111, 116]), (1, [113]), (5, [40]), (2, [88]), (5, [41]), (5, [44]), (5, [91]), (2, [88]), (5, [60]), (3, [51]), (5, [93]), (5, [45, 62]), (5, [43]), (1, [114]), (5, [40]), (5, [40]), (2, [88]), (5, [43]), (3, [49]), (5, [41]), (5, [41]), (5, [44]), (1, [100, 114, 111, 112]), (3, [48]), (5, [46])]
def rkL : List Kt := [(1, [114, 117, 108, 101]), (1, [97]), (3, [48]), (5, [58]), (1, [110, 111, 116]), (1, [112]), (5, [45, 62]), (5, [43]), (1, [113]), (5, [46])]
theorem rk_lex : lexK rkT = some rkK := by kernel_rfl
theorem rk_lex2 : lexK rkU = some rkL := by kernel_rfl
theorem rk_read : readR rkK 0 = .ok (rkR, rkK.length) := by kernel_rfl
theorem rk_read2 : readR rkL 0 = .error 0 := by kernel_rfl
theorem rk_right : rightR rkR = true := by kernel_rfl
theorem itoa_neg5 : Lib.itoa (-5) = [45, 53] := by
  unfold Lib.itoa
  rw [if_pos (by decide)]
  simp [Lib.decDigits]
theorem rk_text : textR rkR = rkT := by
  rw [textR_is rk_right]
  have e0 := itoa_small (n := 0) (by decide)
  have e1 := itoa_small (n := 1) (by decide)
  have e3 := itoa_small (n := 3) (by decide)
  have t1 : textX [(1, ⟨#[88]⟩, zeroV), (2, ⟨#[]⟩, 1, 1, ⟨#[]⟩), (3, ⟨#[]⟩, zeroV)] = [40, 88, 32, 43, 32, 49, 41] := by
    show 40 :: ([88] ++ 32 :: 43 :: 32 :: (Lib.itoa 1 ++ [41])) = _
    rw [show Lib.itoa 1 = [49] from e1]
    rfl
  have t2 : textX [(1, ⟨#[88]⟩, zeroV)] = [88] := rfl
  have t3 : textX [(2, ⟨#[]⟩, 1, 3, ⟨#[]⟩)] = [51] := by
    show Lib.itoa 3 = _
    exact e3
  have a1 : actT (1, [114], [[(1, ⟨#[88]⟩, zeroV), (2, ⟨#[]⟩, 1, 1, ⟨#[]⟩), (3, ⟨#[]⟩, zeroV)]], 0) = [43, 114, 40, 40, 88, 32, 43, 32, 49, 41, 41] := by
    show [43] ++ [114] ++ [40] ++ joinC [textX _] ++ [41] = _
    rw [t1, joinC_one]
    rfl
  have a2 : actT (2, [], [], 0) = [100, 114, 111, 112, 32, 48] := by
    show [100, 114, 111, 112, 32] ++ Lib.itoa 0 = _
    rw [show Lib.itoa 0 = [48] from e0]
    rfl
  have c3 : condT (3, noA, 3, [(1, ⟨#[88]⟩, zeroV)], [(2, ⟨#[]⟩, 1, 3, ⟨#[]⟩)]) = [91, 88, 32, 60, 32, 51, 93] := by
    show [91] ++ textX _ ++ [32] ++ howL 3 ++ [32] ++ textX _ ++ [93] = _
    rw [t2, t3]
    rfl
  unfold ruleT rkR
  simp only [List.map_cons, List.map_nil]
  rw [a1, a2, c3, joinC_two, joinC_two, joinC_one, joinC_two, joinC_one, itoa_neg5]
  rfl
end Go.Proofs.YtcjnhhbcleljmaaGreatDoor.V

