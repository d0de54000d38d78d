/- What match.valueOf and slices.Grow of values answer; what match.Ground comes to, in plain words. -/
import Derived.Test.YtmoalmpcobljkaaMatB
import Derived.Test.YtmoalmpcobljkaaMatC
import Derived.Test.YtmoalmpcobljkaaShelfVG
namespace Go.Proofs.Ytmoalmpcobljkaa.Sb
open Go.RowKit
open V

/-- A term's value, if it has one. -/
def voO (t : Bb) (l : List Bb) : Option Vv := if t.1.size = 0 then some t.2 else getL l t.1
def voR (t : Bb) (l : List Bb) : Vv × Bool := match voO t l with
  | some v => (v, true)
  | none => ((0, 0, ⟨#[]⟩), false)
theorem vo_zero {t : Bb} {l : List Bb} (h : t.1.size = 0) : voR t l = (t.2, true) := by simp [voR, voO, h]
theorem vo_var {t : Bb} {l : List Bb} (h : t.1.size ≠ 0) : voR t l = getR l t.1 := by
  unfold voR voO getR
  rw [if_neg h]
  cases getL l t.1 <;> rfl
theorem ground_cons (l : List Bb) (t : Bb) (ts : List Bb) : groundL l (t :: ts) = (voO t l).bind (fun v => (groundL l ts).map (v :: ·)) := by
  unfold voO
  simp only [groundL]
  by_cases hz : t.1.size = 0
  · simp [hz]
  · simp only [hz, if_false]
    cases getL l t.1 <;> rfl
theorem ground_app (l : List Bb) (ts' : List Bb) : ∀ ts : List Bb, groundL l (ts ++ ts') = (groundL l ts).bind (fun a => (groundL l ts').map (a ++ ·))
  | [] => by simp [groundL]
  | t :: ts => by
    rw [List.cons_append, ground_cons, ground_cons, ground_app l ts' ts]
    cases voO t l with
    | none => rfl
    | some v =>
      simp only [Option.bind_some]
      cases groundL l ts with
      | none => rfl
      | some a =>
        simp only [Option.bind_some, Option.map_some]
        cases groundL l ts' <;> rfl
theorem ground_next {l : List Bb} {ts : List Bb} {k : Nat} {vs : List Vv} {v : Vv} (hk : k < ts.length) (h : groundL l (ts.take k) = some vs) (hv : voR ts[k] l = (v, true)) : groundL l (ts.take (k + 1)) = some (vs ++ [v]) := by
  rw [List.take_succ_eq_append_getElem hk, ground_app, h, Option.bind_some, ground_cons]
  unfold voR at hv
  split at hv
  · rename_i u e
    simp only [Prod.mk.injEq, and_true] at hv
    subst hv
    rw [e]; rfl
  · simp at hv
theorem ground_fail {l : List Bb} {ts : List Bb} {k : Nat} {v : Vv} (hk : k < ts.length) (hv : voR ts[k] l = (v, false)) : groundL l ts = none := by
  have e : voO ts[k] l = none := by
    unfold voR at hv
    split at hv
    · simp at hv
    · assumption
  have : ts = ts.take k ++ (ts[k] :: ts.drop (k + 1)) := by rw [List.getElem_cons_drop, List.take_append_drop]
  rw [this, ground_app, ground_cons, e]
  cases groundL l (ts.take k) <;> rfl
/-- What match.Ground comes to: name, values, error. -/
def grR (n : ByteArray) (ts l : List Bb) : ByteArray × List Vv × Int :=
  if rightA n ts = true ∧ listB l = true then (match groundL l ts with
    | some vs => (n, vs, 0)
    | none => (⟨#[]⟩, [], 5)) else (⟨#[]⟩, [], 1)
def vb (v : Vv) : Vb := ⟨v.1, v.2.1, v.2.2⟩
theorem vv_vb (v : Vv) : vv (vb v) = v := rfl
theorem vv_vbs (vs : List Vv) : (vs.map vb).map vv = vs := by
  rw [List.map_map]
  have : (vv ∘ vb) = id := rfl
  rw [this, List.map_id]

set_option maxHeartbeats 2000000 in
theorem valueOf_any (t : Bb) (a : Option Addr) (len cap : Nat) (xs : List Bb) (v : Vv) (q : Bool) (w : World) (ht : Lt t) (hx : Lies w a len cap xs) (h1k : len ≤ 1000) (hL : ∀ x ∈ xs, Lt x) (H : Hid (voR t xs = (v, q))) :
    Calls Try.prog 25 #[.agg #[.string t.1, .int .i64 t.2.1, .int .i64 t.2.2.1, .string t.2.2.2], .slice a len cap] w fun e w' => e = .returned (.tuple #[.agg #[.int .i64 v.1, .int .i64 v.2.1, .string v.2.2], .bool q]) ∧ Below w.heap.size w w' := by
  have hb0 : Below w.heap.size w ((w.alloc (bxT t)).alloc (.cells #[.int .i64 0, .int .i64 0, .string ⟨#[]⟩] 40)) := ((Below.refl _ _).alloc (Nat.le_refl _) _).alloc (by simp) _
  have k1 := heap_alloc_new (w.alloc (bxT t)) (.cells #[.int .i64 0, .int .i64 0, .string ⟨#[]⟩] 40)
  rw [show (w.alloc (bxT t)).heap.size = w.heap.size + 1 by simp] at k1
  have k0 : ((w.alloc (bxT t)).alloc (.cells #[.int .i64 0, .int .i64 0, .string ⟨#[]⟩] 40)).heap[w.heap.size]? = some (bxT t) :=
    (Lib.alloc_old _ _ _ (by simp)).trans (heap_alloc_new w _)
  have hsz : ((w.alloc (bxT t)).alloc (.cells #[.int .i64 0, .int .i64 0, .string ⟨#[]⟩] 40)).heap.size = w.heap.size + 1 + 1 := by simp
  have hx0 := hx.on hb0
  obtain ⟨c0, c1, c2, c3⟩ := quadT k0
  by_cases hz : t.1.size = 0
  · have e0 := emp_t hz
    rw [vo_zero hz] at H
    obtain ⟨rfl, rfl⟩ := Prod.mk.inj (unhide H)
    clear H hz
    go_enter Try.func25, Try.ntmps25
    go_wp2_with fail
    generalize (w.alloc (bxT t)).alloc (.cells #[.int .i64 0, .int .i64 0, .string ⟨#[]⟩] 40) = W at hb0 k0 k1 hsz hx0 c0 c1 c2 c3
    have j := heap_alloc_new W (bxV t.2)
    rw [hsz] at j
    refine (clone_any t.2.2.2 _ (by have := ht.2; omega)).mono ?_
    rintro e w1 ⟨rfl, hb1⟩
    have hbx : Below W.heap.size W (W.alloc (bxV t.2)) := (Below.refl _ _).alloc (Nat.le_refl _) _
    have hw1 := bt (bt hb0 hbx) hb1
    have j1 := ((bt hbx hb1).block (w.heap.size + 1) (by omega)).trans k1
    have j0 := (hb1.block (w.heap.size + 1 + 1) (by simp; omega)).trans j
    clear k0 k1 hb0 hb1 hbx j c0 c1 c2 c3 hsz hx0 e0
    obtain ⟨x0, x1, x2⟩ := trip_of j0
    obtain ⟨z0, z1, z2⟩ := trip_of (v := (0, 0, ⟨#[]⟩)) j1
    have g2 := Lib.frozen_of_heap j0 2
    have f0 := Lib.frozen_of_heap j1 0
    have f1 := Lib.frozen_of_heap j1 1
    have f2 := Lib.frozen_of_heap j1 2
    clear j0 j1
    go_wp2_with fail
    refine bodyPost_ret (v := .tuple #[.agg #[.int .i64 t.2.1, .int .i64 t.2.2.1, .string t.2.2.2], .bool true]) (by simp [results, Try.results25, go_sem, z0, z1, z2]) rfl ?_
    exact ⟨rfl, (((hw1.setCell (p := ⟨w.heap.size + 1 + 1, 2, none⟩) (by simp; omega) _).setCell (p := ⟨w.heap.size + 1, 0, none⟩) (Nat.le_succ _) _).setCell (p := ⟨w.heap.size + 1, 1, none⟩) (Nat.le_succ _) _).setCell (p := ⟨w.heap.size + 1, 2, none⟩) (Nat.le_succ _) _⟩
  · have e0 := emp_f hz
    rw [vo_var hz] at H
    clear hz
    go_enter Try.func25, Try.ntmps25
    go_wp2_with fail
    refine (get_any a len cap xs t.1 v q _ hx0.row hx0.le hx0.ge h1k hL H).mono ?_
    rintro e w1 ⟨rfl, hb1⟩
    have j1 := (hb1.block (w.heap.size + 1) (by rw [hsz]; omega)).trans k1
    have hw1 := bt hb0 hb1
    clear k0 k1 hb0 hb1 hsz c0 c1 c2 c3 hx0 e0
    obtain ⟨z0, z1, z2⟩ := trip_of (v := (0, 0, ⟨#[]⟩)) j1
    have f0 := Lib.frozen_of_heap j1 0
    have f1 := Lib.frozen_of_heap j1 1
    have f2 := Lib.frozen_of_heap j1 2
    clear j1
    go_wp2_with fail
    refine bodyPost_ret (v := .tuple #[.agg #[.int .i64 v.1, .int .i64 v.2.1, .string v.2.2], .bool q]) (by simp [results, Try.results25, go_sem, z0, z1, z2]) rfl ?_
    exact ⟨rfl, ((hw1.setCell (p := ⟨w.heap.size + 1, 0, none⟩) (Nat.le_succ _) _).setCell (p := ⟨w.heap.size + 1, 1, none⟩) (Nat.le_succ _) _).setCell (p := ⟨w.heap.size + 1, 2, none⟩) (Nat.le_succ _) _⟩

theorem infoV : (Try.prog.info? 40).map (fun i => (i.zero, i.size, i.bytes)) = some (some (.agg #[.int .i64 0, .int .i64 0, .string ⟨#[]⟩]), 3, 32) := by kernel_rfl
set_option maxHeartbeats 1000000 in
theorem growV_any (n : Nat) (w : World) (hn : n ≤ 1000) :
    Calls Try.prog 24 #[.slice none 0 0, .int .i64 n] w fun e w' => ∃ (a : Option Addr) (cap : Nat), e = .returned (.slice a 0 cap) ∧ w'.ownsRow w.heap.size 40 3 (.slice a 0 cap) 0 [] ∧ Below w.heap.size w w' := by
  obtain ⟨i0, hi, hz0, hz1, hz2⟩ := info_parts infoV
  by_cases h0 : n = 0
  · subst h0
    refine (Any8.slices_Grow_room Try.growV none 0 0 0 w (Nat.le_refl _) (by omega) (by omega) (by omega)).mono ?_
    rintro e w' ⟨rfl, rfl⟩
    exact ⟨none, 0, rfl, World.ownsRow_nil _ _ _ _, Below.refl _ _⟩
  · have hg := Any8.slices_Grow_grow Try.growV i0 _ hi hz0 (by omega) none 0 0 n [] w (Nat.le_refl _) (by omega) (by rw [hz2]; omega) (by omega) (by simp) (fun _ => rfl) (by intro a h; cases h)
    refine hg.mono ?_
    rintro e w' ⟨rfl, rfl⟩
    refine ⟨_, _, rfl, ?_, (Below.refl _ _).drew.alloc (Nat.le_refl _) _⟩
    refine World.ownsRow_made w.drew _ _ (Nat.le_refl _) ?_ ?_
    · exact grownCap_le_maxLen w (0 + n) 0 40 (by unfold maxLen; omega)
    · have := grownCap_ge w n 0 (Try.growV_ren.t 25)
      simp [size_zeroCells, Value.cells]
      omega
end Go.Proofs.Ytmoalmpcobljkaa.Sb
