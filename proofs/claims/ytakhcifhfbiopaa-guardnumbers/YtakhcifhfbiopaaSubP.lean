/- Lists of variables' values in plain words: what a right list is, what is got, what two lists are together. No program in it. -/
import Derived.Test.YtakhcifhfbiopaaSetP
namespace Go.Proofs.Ytakhcifhfbiopaa.V

/-- A value: kind, number, bytes. -/
abbrev Vv := Int × Int × ByteArray
/-- A variable's value. -/
abbrev Bb := ByteArray × Vv

theorem bytes_ext {a b : ByteArray} (h : a.data.toList = b.data.toList) : a = b := by
  obtain ⟨⟨x⟩⟩ := a
  obtain ⟨⟨y⟩⟩ := b
  simp at h
  rw [h]

def rightVv (v : Vv) : Bool := rightB v.1 v.2.1 v.2.2.data.toList
/-- A large letter, then letters, digits, _; 24 at the most. -/
def varB : List UInt8 → Bool
  | [] => false
  | c :: r => decide (r.length + 1 ≤ 24) && (upB c.toNat && (c :: r).all innB)
def rightBd (x : Bb) : Bool := varB x.1.data.toList && rightVv x.2
def byV (x y : Bb) : Int := Lib.compareBytes x.1.data.toList y.1.data.toList
/-- By variable, then by value. -/
def cmpB (x y : Bb) : Int := if byV x y ≠ 0 then byV x y else cmpV (x.2.1, x.2.2.1, x.2.2.2.data.toList) (y.2.1, y.2.2.1, y.2.2.2.data.toList)
theorem ord_bind : Ord3 cmpB :=
  ord_then (f := Lib.compareBytes) (g := cmpV) ord_bytes ord_val (fun x : Bb => x.1.data.toList) (fun x : Bb => (x.2.1, x.2.2.1, x.2.2.2.data.toList)) (by
    rintro ⟨n, k, m, s⟩ ⟨n', k', m', s'⟩ h1 h2
    simp only [Prod.mk.injEq] at h2 ⊢
    exact ⟨bytes_ext h1, h2.1, h2.2.1, bytes_ext h2.2.2⟩)
theorem byV_zero {x y : Bb} : byV x y = 0 ↔ x.1 = y.1 := by
  unfold byV
  rw [ord_bytes.zero]
  exact ⟨bytes_ext, fun h => by rw [h]⟩
theorem byV_tri (x y : Bb) : byV x y = -1 ∨ byV x y = 0 ∨ byV x y = 1 := ord_bytes.tri _ _
theorem byV_anti (x y : Bb) : byV y x = - byV x y := ord_bytes.anti _ _
theorem byV_trans (x y z : Bb) (h : byV x y = -1) (k : byV y z = -1) : byV x z = -1 := ord_bytes.trans _ _ _ h k
theorem cmpB_of {x y : Bb} (h : byV x y = -1) : cmpB x y = -1 := by unfold cmpB; rw [if_pos (by omega)]; exact h

/-- A right list. -/
def listB (l : List Bb) : Bool := decide (l.length ≤ 100) && (l.all rightBd && riseB byV l)
/-- Its first k are right, and rise. -/
def Seen (l : List Bb) (k : Nat) : Prop := (∀ j (_ : j < l.length), j < k → rightBd l[j] = true) ∧ (∀ j (_ : j + 1 < l.length), j + 1 < k → byV l[j] l[j + 1] < 0)
theorem riseB_iff {α : Type} {f : α → α → Int} : ∀ {l : List α}, riseB f l = true ↔ ∀ i (h : i + 1 < l.length), f l[i] l[i + 1] < 0
  | [] => by simp [riseB]
  | [_] => by simp [riseB]
  | a :: b :: r => by
    simp only [riseB, Bool.and_eq_true, decide_eq_true_eq]
    rw [riseB_iff (l := b :: r)]
    constructor
    · rintro ⟨h0, h1⟩ i hi
      match i with
      | 0 => exact h0
      | i + 1 => exact h1 i (by simpa using hi)
    · intro h
      exact ⟨h 0 (by simp), fun i hi => h (i + 1) (by simpa using hi)⟩
theorem listB_iff {l : List Bb} : listB l = true ↔ l.length ≤ 100 ∧ Seen l l.length := by
  simp only [listB, Bool.and_eq_true, decide_eq_true_eq, List.all_eq_true, riseB_iff, Seen]
  constructor
  · rintro ⟨h0, h1, h2⟩
    exact ⟨h0, fun j hj _ => h1 _ (List.getElem_mem hj), fun j hj _ => h2 j hj⟩
  · rintro ⟨h0, h1, h2⟩
    refine ⟨h0, fun x hx => ?_, fun j hj => h2 j hj hj⟩
    obtain ⟨j, hj, rfl⟩ := List.getElem_of_mem hx
    exact h1 j hj hj
theorem seen_zero (l : List Bb) : Seen l 0 := ⟨fun j _ h => by omega, fun j _ h => by omega⟩
theorem seen_next {l : List Bb} {k : Nat} (h : Seen l k) (hk : k < l.length) (hr : rightBd l[k] = true) (hb : ∀ j (_ : j + 1 = k), byV l[j] l[k] < 0) : Seen l (k + 1) := by
  refine ⟨fun j hj hjk => ?_, fun j hj hjk => ?_⟩
  · by_cases e : j < k
    · exact h.1 j hj e
    · have : j = k := by omega
      subst this; exact hr
  · by_cases e : j + 1 < k
    · exact h.2 j hj e
    · have e' : j + 1 = k := by omega
      subst e'
      exact hb j rfl
theorem list_t {l : List Bb} (h : l.length ≤ 100) (k : Seen l l.length) : listB l = true := listB_iff.2 ⟨h, k⟩
theorem list_long {l : List Bb} (h : 100 < l.length) : listB l = false := by
  rw [← Bool.not_eq_true, listB_iff]; omega
theorem list_bad {l : List Bb} {k : Nat} (hk : k < l.length) (hr : rightBd l[k] = false) : listB l = false := by
  rw [← Bool.not_eq_true, listB_iff]
  rintro ⟨_, h, _⟩
  have := h k hk hk
  rw [hr] at this; cases this
theorem list_fall {l : List Bb} {j : Nat} (hj : j + 1 < l.length) (hr : ¬ byV l[j] l[j + 1] < 0) : listB l = false := by
  rw [← Bool.not_eq_true, listB_iff]
  rintro ⟨_, _, h⟩
  exact hr (h j hj hj)

theorem riseV_pair {l : List Bb} (h : riseB byV l = true) : l.Pairwise (fun x y => byV x y = -1) := by
  match l, h with
  | [], _ => exact List.Pairwise.nil
  | [_], _ => simp
  | a :: b :: r, h =>
    simp only [riseB, Bool.and_eq_true, decide_eq_true_eq] at h
    have hr := riseV_pair (l := b :: r) h.2
    have hab : byV a b = -1 := by have := byV_tri a b; omega
    refine List.Pairwise.cons (fun y hy => ?_) hr
    rcases List.mem_cons.1 hy with rfl | hy
    · exact hab
    · exact byV_trans a b y hab ((List.pairwise_cons.1 hr).1 y hy)
theorem list_pair {l : List Bb} (h : listB l = true) : l.Pairwise (fun x y => byV x y = -1) := by
  simp only [listB, Bool.and_eq_true] at h
  exact riseV_pair h.2.2
theorem list_rise {l : List Bb} (h : listB l = true) : Rise cmpB l := (list_pair h).imp cmpB_of
theorem list_len {l : List Bb} (h : listB l = true) : l.length ≤ 100 := (listB_iff.1 h).1
theorem list_right {l : List Bb} (h : listB l = true) {x : Bb} (hx : x ∈ l) : rightBd x = true := by
  simp only [listB, Bool.and_eq_true, List.all_eq_true] at h
  exact h.2.1 x hx
/-- Of a right list no variable has two values. -/
theorem list_one {l : List Bb} (h : listB l = true) {x y : Bb} (hx : x ∈ l) (hy : y ∈ l) (e : x.1 = y.1) : x = y := by
  have hp := list_pair h
  rw [List.pairwise_iff_getElem] at hp
  obtain ⟨i, hi, rfl⟩ := List.getElem_of_mem hx
  obtain ⟨j, hj, rfl⟩ := List.getElem_of_mem hy
  have e0 := byV_zero.2 e
  have e1 := byV_zero.2 e.symm
  by_cases hij : i < j
  · have := hp i j hi hj hij; omega
  · by_cases hji : j < i
    · have := hp j i hj hi hji; omega
    · have : i = j := by omega
      subst this; rfl
/-- Rising, each right, no variable twice, not too many: right. -/
theorem list_of {l : List Bb} (hr : Rise cmpB l) (hl : l.length ≤ 100) (ha : ∀ x ∈ l, rightBd x = true) (hn : ∀ x ∈ l, ∀ y ∈ l, x.1 = y.1 → x = y) : listB l = true := by
  simp only [listB, Bool.and_eq_true, decide_eq_true_eq, List.all_eq_true]
  refine ⟨hl, ha, riseB_iff.2 (fun i hi => ?_)⟩
  have hp := List.pairwise_iff_getElem.1 hr i (i + 1) (by omega) hi (by omega)
  by_cases hz : byV l[i] l[i + 1] = 0
  · have e := hn _ (List.getElem_mem (by omega)) _ (List.getElem_mem hi) (byV_zero.1 hz)
    rw [e, self_zero ord_bind] at hp
    omega
  · simp only [cmpB, hz, ne_eq, not_false_eq_true, if_true] at hp
    omega
/-- A rising list of some of a right list's is right. -/
theorem list_sub {l m : List Bb} (h : listB m = true) (hr : Rise cmpB l) (hs : ∀ x ∈ l, x ∈ m) : listB l = true :=
  list_of hr (Nat.le_trans (List.Nodup.length_le_of_subset (rise_nodup ord_bind hr) hs) (list_len h)) (fun x hx => list_right h (hs x hx)) (fun x hx y hy e => list_one h (hs x hx) (hs y hy) e)

/-- What two lists are together. -/
def unL (a b : List Bb) : List Bb := ofL cmpB (a ++ b)
def bothR (a b : List Bb) : List Bb × Bool := if listB a = true ∧ listB b = true ∧ listB (unL a b) = true then (unL a b, true) else ([], false)
theorem both_t {a b : List Bb} (h : listB a = true) (k : listB b = true) (u : listB (unL a b) = true) : bothR a b = (unL a b, true) := if_pos ⟨h, k, u⟩
theorem both_f {a b : List Bb} (h : ¬ (listB a = true ∧ listB b = true ∧ listB (unL a b) = true)) : bothR a b = ([], false) := if_neg h
theorem both_ok {a b us : List Bb} (h : bothR a b = (us, true)) : listB a = true ∧ listB b = true ∧ listB us = true ∧ us = unL a b := by
  unfold bothR at h
  split at h
  · rename_i g
    simp only [Prod.mk.injEq, and_true] at h
    subst h
    exact ⟨g.1, g.2.1, g.2.2, rfl⟩
  · simp at h
theorem both_no {a b us : List Bb} (h : bothR a b = (us, false)) : us = [] := by
  unfold bothR at h
  split at h
  · simp at h
  · simp only [Prod.mk.injEq, and_true] at h
    exact h.symm
theorem both_list {a b us : List Bb} {ok : Bool} (h : bothR a b = (us, ok)) : listB us = true := by
  cases ok with
  | true => exact (both_ok h).2.2.1
  | false => rw [both_no h]; rfl
theorem mem_un {a b : List Bb} {x : Bb} : x ∈ unL a b ↔ x ∈ a ∨ x ∈ b := by
  unfold unL; rw [mem_of ord_bind, List.mem_append]
theorem un_comm (a b : List Bb) : unL a b = unL b a := of_same ord_bind (fun x => by rw [List.mem_append, List.mem_append]; exact Or.comm)
theorem both_comm (a b : List Bb) : bothR a b = bothR b a := by
  unfold bothR
  rw [un_comm a b]
  by_cases h1 : listB a = true <;> by_cases h2 : listB b = true <;> simp [h1, h2]
theorem un_eq {a b c : List Bb} (hc : Rise cmpB c) (h : ∀ x, x ∈ c ↔ x ∈ a ∨ x ∈ b) : unL a b = c :=
  (is_of ord_bind hc (fun x => by rw [h, List.mem_append])).symm
theorem rise_un (a b : List Bb) : Rise cmpB (unL a b) := rise_of ord_bind _

/-- What is got. -/
def getL (l : List Bb) (n : ByteArray) : Option Vv := (l.find? (fun x => decide (x.1 = n))).map Prod.snd
theorem get_none {l : List Bb} {n : ByteArray} (h : ∀ x ∈ l, x.1 ≠ n) : getL l n = none := by
  unfold getL
  rw [List.find?_eq_none.2 (fun x hx => by simpa using h x hx)]; rfl
theorem get_mem {l : List Bb} {n : ByteArray} {v : Vv} (h : getL l n = some v) : (n, v) ∈ l := by
  unfold getL at h
  rw [Option.map_eq_some_iff] at h
  obtain ⟨x, hx, rfl⟩ := h
  have h1 := List.find?_some hx
  have h2 := List.mem_of_find?_eq_some hx
  simp only [decide_eq_true_eq] at h1
  obtain ⟨n', v'⟩ := x
  simp only at h1
  subst h1
  exact h2
theorem get_some {l : List Bb} (hl : listB l = true) {n : ByteArray} {v : Vv} (h : (n, v) ∈ l) : getL l n = some v := by
  cases hg : getL l n with
  | none =>
    unfold getL at hg
    rw [Option.map_eq_none_iff, List.find?_eq_none] at hg
    have := hg (n, v) h
    simp at this
  | some u =>
    have := list_one hl h (get_mem hg) rfl
    simp only [Prod.mk.injEq, true_and] at this
    rw [this]
theorem get_iff {l : List Bb} (hl : listB l = true) {n : ByteArray} {v : Vv} : getL l n = some v ↔ (n, v) ∈ l := ⟨get_mem, get_some hl⟩
/-- The first of that name. -/
theorem get_first {l : List Bb} {n : ByteArray} {k : Nat} (hk : k < l.length) (hb : ∀ j (_ : j < l.length), j < k → l[j].1 ≠ n) (h : l[k].1 = n) : getL l n = some l[k].2 := by
  unfold getL
  have : l.find? (fun x => decide (x.1 = n)) = some l[k] := by
    rw [List.find?_eq_some_iff_getElem]
    refine ⟨by simp [h], k, hk, rfl, fun j hj => ?_⟩
    simpa using hb j (by omega) hj
  rw [this]; rfl
theorem get_end {l : List Bb} {n : ByteArray} (hb : ∀ j (_ : j < l.length), l[j].1 ≠ n) : getL l n = none := by
  refine get_none (fun x hx => ?_)
  obtain ⟨j, hj, rfl⟩ := List.getElem_of_mem hx
  exact hb j hj
end Go.Proofs.Ytakhcifhfbiopaa.V
