/- The readers by places: what stands at a place decides. No program in it. -/
import Derived.Test.YtcjnhhbcleljmaaGreatDoorAtoZb
namespace Go.Proofs.YtcjnhhbcleljmaaGreatDoor.V

/-- The term that the sign at a place is. -/
def kT (ks : List Kt) (q : Nat) : Option Bb := match ks[q]? with
  | some t => termR t
  | none => none
theorem drop_at {ks : List Kt} {q : Nat} {t : Kt} (h : ks[q]? = some t) : ks.drop q = t :: ks.drop (q + 1) := by
  obtain ⟨hq, e⟩ := List.getElem?_eq_some_iff.1 h
  rw [← e]; exact List.drop_eq_getElem_cons hq
theorem drop_out {ks : List Kt} {q : Nat} (h : ks[q]? = none) : ks.drop q = [] := List.drop_eq_nil_of_le (by simpa using h)
theorem readTs_none {ks : List Kt} {q : Nat} (h : kT ks q = none) : readTs (ks.drop q) q = .error q := by
  unfold kT at h
  cases hq : ks[q]? with
  | none => rw [drop_out hq]; unfold readTs; rfl
  | some t =>
    rw [hq] at h
    simp only at h
    rw [drop_at hq, readTs_cons, h]
theorem kT_some {ks : List Kt} {q : Nat} {v : Bb} (h : kT ks q = some v) : ∃ t, ks[q]? = some t ∧ termR t = some v := by
  unfold kT at h
  cases hq : ks[q]? with
  | none => rw [hq] at h; cases h
  | some t => rw [hq] at h; exact ⟨t, rfl, h⟩
theorem readTs_close {ks : List Kt} {q : Nat} {v : Bb} (h : kT ks q = some v) (hc : ks[q + 1]? = some (5, [41])) : readTs (ks.drop q) q = .ok ([v], q + 2) := by
  obtain ⟨t, hq, ht⟩ := kT_some h
  rw [drop_at hq, drop_at hc, readTs_cons, ht]
  simp only
  rw [if_neg (by simp), if_pos trivial]
theorem readTs_more {ks : List Kt} {q : Nat} {v : Bb} (h : kT ks q = some v) (hc : ks[q + 1]? = some (5, [44])) : readTs (ks.drop q) q = (match readTs (ks.drop (q + 2)) (q + 2) with
    | .ok x => .ok (v :: x.1, x.2)
    | .error e => .error e) := by
  obtain ⟨t, hq, ht⟩ := kT_some h
  rw [drop_at hq, drop_at hc, readTs_cons, ht]
  simp only
  rw [if_pos trivial]
  rfl
theorem readTs_bad {ks : List Kt} {q : Nat} {v : Bb} (h : kT ks q = some v) (h1 : ks[q + 1]? ≠ some (5, [41])) (h2 : ks[q + 1]? ≠ some (5, [44])) : readTs (ks.drop q) q = .error (q + 1) := by
  obtain ⟨t, hq, ht⟩ := kT_some h
  rw [drop_at hq, readTs_cons, ht]
  cases hc : ks[q + 1]? with
  | none => rw [drop_out hc]
  | some c =>
    rw [drop_at hc]
    simp only
    rw [if_neg (fun e => h2 (by rw [hc, e])), if_neg (fun e => h1 (by rw [hc, e]))]
/-- The terms so far, ahead of those that are still to be read. -/
def accT (nm : List UInt8) (acc : List Bb) : Except Nat (List Bb × Nat) → Except Nat (At × Nat)
  | .ok x => .ok ((nm, acc ++ x.1), x.2)
  | .error e => .error e
theorem accT_more {ks : List Kt} {q : Nat} {v : Bb} (nm : List UInt8) (acc : List Bb) (h : kT ks q = some v) (hc : ks[q + 1]? = some (5, [44])) : accT nm acc (readTs (ks.drop q) q) = accT nm (acc ++ [v]) (readTs (ks.drop (q + 2)) (q + 2)) := by
  rw [readTs_more h hc]
  cases readTs (ks.drop (q + 2)) (q + 2) with
  | error e => rfl
  | ok x => simp [accT]
def nameK (ks : List Kt) (p : Nat) : Bool := match ks[p]? with
  | some t => decide (t.1 = 1) && nameB t.2
  | none => false
theorem readAt_none {ks : List Kt} {p : Nat} (h : nameK ks p = false) : readAt (ks.drop p) p = .error p := by
  unfold nameK at h
  cases hp : ks[p]? with
  | none => rw [drop_out hp]; rfl
  | some t =>
    rw [hp] at h
    rw [drop_at hp]
    unfold readAt
    simp only
    rw [if_neg]
    rintro ⟨h1, h2⟩
    simp [h1, h2] at h
theorem readAt_bare {ks : List Kt} {p : Nat} {t : Kt} (hp : ks[p]? = some t) (h1 : t.1 = 1) (h2 : nameB t.2 = true) (hc : ks[p + 1]? ≠ some (5, [40])) : readAt (ks.drop p) p = .ok ((t.2, []), p + 1) := by
  rw [drop_at hp]
  unfold readAt
  simp only
  rw [if_pos ⟨h1, h2⟩]
  cases hq : ks[p + 1]? with
  | none => rw [drop_out hq]
  | some c =>
    rw [drop_at hq]
    simp only
    rw [if_neg (fun e => hc (by rw [hq, e]))]
theorem readAt_open {ks : List Kt} {p : Nat} {t : Kt} (hp : ks[p]? = some t) (h1 : t.1 = 1) (h2 : nameB t.2 = true) (hc : ks[p + 1]? = some (5, [40])) : readAt (ks.drop p) p = accT t.2 [] (readTs (ks.drop (p + 2)) (p + 2)) := by
  rw [drop_at hp, drop_at hc]
  unfold readAt
  simp only
  rw [if_pos ⟨h1, h2⟩, if_pos trivial]
  cases readTs (ks.drop (p + 1 + 1)) (p + 2) with
  | error e => rfl
  | ok x => simp [accT]

theorem readX_at_none {ks : List Kt} {p : Nat} (m : Nat) (ho : ks[p]? ≠ some (5, [40])) (h : kT ks p = none) : readX m (ks.drop p) p = .error (some p) := by
  unfold kT at h
  cases hp : ks[p]? with
  | none => rw [drop_out hp, readX_nil]
  | some t =>
    rw [hp] at h
    simp only at h
    rw [drop_at hp, readX_leaf (fun e => ho (by rw [hp, e])), leafX, h]
theorem readX_at_leaf {ks : List Kt} {p : Nat} {v : Bb} (m : Nat) (ho : ks[p]? ≠ some (5, [40])) (h : kT ks p = some v) : readX m (ks.drop p) p = .ok ([pushT v], ks.drop (p + 1), p + 1) := by
  obtain ⟨t, hp, ht⟩ := kT_some h
  rw [drop_at hp, readX_leaf (fun e => ho (by rw [hp, e])), leafX, ht]
theorem readX_at_zero {ks : List Kt} {p : Nat} (ho : ks[p]? = some (5, [40])) : readX 0 (ks.drop p) p = .error none := by
  rw [drop_at ho, readX_zero]
theorem readX_at_open {ks : List Kt} {p : Nat} (m : Nat) (ho : ks[p]? = some (5, [40])) : readX (m + 1) (ks.drop p) p = nextX (readX m) (readX m (ks.drop (p + 1)) (p + 1)) := by
  rw [drop_at ho, readX_open]
/-- What is done by the mark at a place. -/
def kOp (ks : List Kt) (q : Nat) : Option Int := match ks[q]? with
  | some t => opK t
  | none => none
theorem nextX_at_none {ks : List Kt} {x : List Oo} {q : Nat} (f : List Kt → Nat → Rx) (h : kOp ks q = none) : nextX f (.ok (x, ks.drop q, q)) = .error (some q) := by
  unfold kOp at h
  cases hq : ks[q]? with
  | none => rw [drop_out hq]; rfl
  | some t =>
    rw [hq] at h
    simp only at h
    rw [drop_at hq]
    simp only [nextX, h]
theorem nextX_at_some {ks : List Kt} {x : List Oo} {q : Nat} {k : Int} (f : List Kt → Nat → Rx) (h : kOp ks q = some k) : nextX f (.ok (x, ks.drop q, q)) = closeX x k (f (ks.drop (q + 1)) (q + 1)) := by
  unfold kOp at h
  cases hq : ks[q]? with
  | none => rw [hq] at h; cases h
  | some t =>
    rw [hq] at h
    simp only at h
    rw [drop_at hq]
    simp only [nextX, h]
theorem closeX_at_ok {ks : List Kt} {x y : List Oo} {q : Nat} {k : Int} (h : ks[q]? = some (5, [41])) : closeX x k (.ok (y, ks.drop q, q)) = .ok (x ++ y ++ [(k, ⟨#[]⟩, zeroV)], ks.drop (q + 1), q + 1) := by
  rw [drop_at h]
  simp only [closeX]
  rw [if_pos trivial]
theorem closeX_at_bad {ks : List Kt} {x y : List Oo} {q : Nat} {k : Int} (h : ks[q]? ≠ some (5, [41])) : closeX x k (.ok (y, ks.drop q, q)) = .error (some q) := by
  cases hq : ks[q]? with
  | none => rw [drop_out hq]; rfl
  | some t =>
    rw [drop_at hq]
    simp only [closeX]
    rw [if_neg (fun e => h (by rw [hq, e]))]
end Go.Proofs.YtcjnhhbcleljmaaGreatDoor.V
