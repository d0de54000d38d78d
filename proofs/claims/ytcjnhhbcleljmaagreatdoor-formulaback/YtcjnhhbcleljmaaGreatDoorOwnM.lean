/- Plain functions on bytes: what a text says, what a value's text is, the order of values; that the one undoes the other. No program in it. -/
import Derived.Test.YtcjnhhbcleljmaaGreatDoorOwnA
import Derived.Lib.AtoiAllCases
import Derived.Lib.ItoaNum
import Derived.Lib.Bytealg
import Derived.Lib.Small
namespace Go.Proofs.YtcjnhhbcleljmaaGreatDoor.V

/-- A number's text. -/
def numL (l : List UInt8) : Option Int :=
  match Lib.atoiAll l with
  | .ok v => if Lib.itoa v = l then some v else none
  | _ => none
/-- What stands between two quotes. -/
def unqIn : List UInt8 → Option (List UInt8)
  | [] => some []
  | c :: r =>
    if c.toNat = 34 then none
    else if c.toNat = 92 then
      match r with
      | [] => none
      | d :: q => if escB d.toNat then (unqIn q).map (d :: ·) else none
    else (unqIn r).map (c :: ·)
def unqL (l : List UInt8) : Option (List UInt8) :=
  if l.length < 2 then none
  else if (l[0]?.getD 0).toNat ≠ 34 then none
  else if (l[l.length - 1]?.getD 0).toNat ≠ 34 then none
  else unqIn ((l.take (l.length - 1)).drop 1)
def valL (l : List UInt8) : Option (Int × Int × List UInt8) :=
  if l.length = 0 then none
  else if 122 < l.length then none
  else if (l[0]?.getD 0).toNat = 34 then (unqL l).map fun r => (3, 0, r)
  else if (l[0]?.getD 0).toNat = 45 ∨ digB (l[0]?.getD 0).toNat = true then (numL l).map fun n => (1, n, [])
  else some (2, 0, l)
/-- The bytes of s from k on, the last one left out. -/
def mid (s : ByteArray) (k : Nat) : List UInt8 := (s.data.toList.take (s.size - 1)).drop k
theorem mid_cons (s : ByteArray) (k : Nat) (h : k < s.size - 1) : mid s k = s[k] :: mid s (k + 1) := by
  unfold mid
  rw [List.drop_eq_getElem_cons (by simp; omega)]
  congr 1
  rw [List.getElem_take]; rfl
theorem mid_nil (s : ByteArray) (k : Nat) (h : s.size - 1 ≤ k) : mid s k = [] := List.drop_eq_nil_of_le (by simp; omega)
theorem unqIn_quote {c : UInt8} {r : List UInt8} (h : (c.toNat : Int) = 34) : unqIn (c :: r) = none := by
  have : c.toNat = 34 := by omega
  rw [unqIn.eq_def]; simp [this]
theorem unqIn_plain {c : UInt8} {r : List UInt8} (h : ¬ (c.toNat : Int) = 34) (h' : ¬ (c.toNat : Int) = 92) : unqIn (c :: r) = (unqIn r).map (c :: ·) := by
  have a : ¬ c.toNat = 34 := by omega
  have b : ¬ c.toNat = 92 := by omega
  rw [unqIn.eq_def]; simp [a, b]
theorem unqIn_last {c : UInt8} (h' : (c.toNat : Int) = 92) : unqIn [c] = none := by
  have b : c.toNat = 92 := by omega
  rw [unqIn.eq_def]; simp [b]
theorem unqIn_esc {c d : UInt8} {r : List UInt8} (h' : (c.toNat : Int) = 92) (hd : escB d.toNat = true) : unqIn (c :: d :: r) = (unqIn r).map (d :: ·) := by
  have b : c.toNat = 92 := by omega
  rw [unqIn.eq_def]; simp [b, hd]
theorem unqIn_noesc {c d : UInt8} {r : List UInt8} (h' : (c.toNat : Int) = 92) (hd : escB d.toNat = false) : unqIn (c :: d :: r) = none := by
  have b : c.toNat = 92 := by omega
  rw [unqIn.eq_def]; simp [b, hd]
theorem get_data (s : ByteArray) (k : Nat) (h : k < s.size) : s.data.toList[k]? = some s[k] := by
  rw [List.getElem?_eq_getElem (by simpa using h)]; rfl
theorem unqL_of (s : ByteArray) (h2 : 2 ≤ s.size) (h0 : (s[0].toNat : Int) = 34) (h1 : (s[s.size - 1].toNat : Int) = 34) : unqL s.data.toList = unqIn (mid s 1) := by
  have hl : s.data.toList.length = s.size := by simp
  unfold unqL mid
  rw [hl, get_data s 0 (by omega), get_data s (s.size - 1) (by omega)]
  have a : s[0].toNat = 34 := by omega
  have b : s[s.size - 1].toNat = 34 := by omega
  simp [a, b]; omega
theorem unqL_short (s : ByteArray) (h2 : s.size < 2) : unqL s.data.toList = none := by
  have hl : s.data.toList.length = s.size := by simp
  unfold unqL; rw [hl, if_pos h2]
theorem unqL_head (s : ByteArray) (h2 : 2 ≤ s.size) (h0 : ¬ (s[0].toNat : Int) = 34) : unqL s.data.toList = none := by
  have hl : s.data.toList.length = s.size := by simp
  unfold unqL
  rw [hl, get_data s 0 (by omega)]
  have a : ¬ s[0].toNat = 34 := by omega
  simp [a]
theorem unqL_tail (s : ByteArray) (h2 : 2 ≤ s.size) (h1 : ¬ (s[s.size - 1].toNat : Int) = 34) : unqL s.data.toList = none := by
  have hl : s.data.toList.length = s.size := by simp
  unfold unqL
  rw [hl, get_data s (s.size - 1) (by omega)]
  have a : ¬ s[s.size - 1].toNat = 34 := by omega
  simp [a]
def parseL (l : List UInt8) : Option (Int × Int × List UInt8) :=
  match valL l with
  | some (k, n, r) => if rightB k n r then some (k, n, r) else none
  | none => none
def textL (k n : Int) (s : List UInt8) : List UInt8 :=
  if k = 1 then Lib.itoa n else if k = 2 then s else quoteL s
def cmpL (k n : Int) (s : List UInt8) (k' n' : Int) (s' : List UInt8) : Int :=
  if Lib.compareInt k k' ≠ 0 then Lib.compareInt k k'
  else if Lib.compareInt n n' ≠ 0 then Lib.compareInt n n'
  else Lib.compareBytes s s'
end Go.Proofs.YtcjnhhbcleljmaaGreatDoor.V
