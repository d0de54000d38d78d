/- What expr.step does to a stack of values that lies in a row of its own. -/
import Derived.Test.YtakhcifhfbiopaaExpD
namespace Go.Proofs.Ytakhcifhfbiopaa.Sb
open Go.RowKit
open V
open N (doL)

def flatV : List Vv → List Value
  | [] => []
  | x :: r => .int .i64 x.1 :: .int .i64 x.2.1 :: .string x.2.2 :: flatV r
theorem flatV_app (xs ys : List Vv) : flatV (xs ++ ys) = flatV xs ++ flatV ys := by
  induction xs with
  | nil => rfl
  | cons x r ih => simp [flatV, ih]
theorem flatV_len (xs : List Vv) : (flatV xs).length = xs.length * 3 := by
  induction xs with
  | nil => rfl
  | cons x r ih => simp [flatV, ih]; omega
theorem infoV : (Try.prog.info? 23).map (fun i => (i.zero, i.size, i.bytes)) = some (some (.agg #[.int .i64 0, .int .i64 0, .string ⟨#[]⟩]), 3, 32) := by kernel_rfl

theorem flatV_oneCell (xs : List Vv) : ∀ u ∈ flatV xs, u.oneCell' = true := by
  induction xs with
  | nil => intro u h; simp [flatV] at h
  | cons x r ih =>
    intro u h
    simp only [flatV, List.mem_cons] at h
    rcases h with rfl | rfl | rfl | h
    · rfl
    · rfl
    · rfl
    · exact ih u h
/-- The cells of one value in a block of its own. -/
theorem cells_v {W : World} {b : Nat} {v : Vv} (h : W.heap[b]? = some (bxV v)) : ∀ (j : Nat) (u : Value), (flatV [v])[j]? = some u → W.cell? ((⟨b, 0, none⟩ : Addr).add j) = some u := by
  intro j u hu
  rw [WideShapes.add_plain, Lib.cell_of_heap h]
  match j, hu with
  | 0, hu => simpa [flatV] using hu
  | 1, hu => simpa [flatV] using hu
  | 2, hu => simpa [flatV] using hu
  | j + 3, hu => simp [flatV] at hu
theorem box_two (w : World) (A : Obj) (v : Vv) : ((w.alloc A).alloc (bxV v)).heap[w.heap.size + 1]? = some (bxV v) := by
  have := heap_alloc_new (w.alloc A) (bxV v)
  rwa [show (w.alloc A).heap.size = w.heap.size + 1 by simp] at this

set_option maxHeartbeats 1000000 in
theorem step_val (B : Nat) (s : Option Addr) (n cs : Nat) (st : List Vv) (t : ByteArray) (v : Vv) (a : Option Addr) (len cap : Nat) (w : World) (hB : B ≤ w.heap.size) (hn : n ≤ 100)
    (hs : w.ownsRow B 23 3 (.slice s n cs) n (flatV st)) :
    Calls Try.prog 40 #[.slice s n cs, .agg #[.int .i64 2, .string t, .int .i64 v.1, .int .i64 v.2.1, .string v.2.2], .slice a len cap] w fun r w' => ∃ (s' : Option Addr) (c' : Nat), r = .returned (.tuple #[.slice s' (n + 1) c', .int .i64 0]) ∧ w'.ownsRow B 23 3 (.slice s' (n + 1) c') (n + 1) (flatV (st ++ [v])) ∧ Below B w w' := by
  obtain ⟨i0, hi, hz0, hz1, hz2⟩ := info_parts infoV
  have hs2 := (hs.alloc (bxO (2, t, v))).alloc (bxV v)
  have hcv := hide (cells_v (box_two w (bxO (2, t, v)) v))
  have hb0 : Below B w ((w.alloc (bxO (2, t, v))).alloc (bxV v)) := ((Below.refl B w).alloc hB _).alloc (by simp; omega) _
  have hsz : B ≤ ((w.alloc (bxO (2, t, v))).alloc (bxV v)).heap.size := by simp; omega
  go_enter Try.func40, Try.ntmps40
  go_wp2_with (at_builtin; refine wpList_append_own_wide _ rfl _ _ 69 rfl B 23 i0 (.agg #[.int .i64 0, .int .i64 0, .string ⟨#[]⟩]) 3 32 Try.underlying69 hi hz0 hz1 hz2 rfl (by decide) _ n (flatV st) rfl hs2 ⟨w.heap.size + 1, 0, none⟩ 1 1 (flatV [v]) rfl ?c0 ?c1 ?c2 ?c3 ?c4 ?c5 ?_)
  case c0 => rfl
  case c1 => exact unhide hcv
  case c2 => exact flatV_oneCell [v]
  case c3 => unfold maxLen; omega
  case c4 => omega
  case c5 => exact hsz
  intro v' w3 hown3 hgrow hnil3
  obtain ⟨aq3, cq3, rfl⟩ := own_slice hown3
  have hbw3 := hb0.grown hgrow hsz (fun m hm => (hs2.lt m hm).1)
  rw [← flatV_app] at hown3
  clear hgrow hnil3 hs2 hcv hb0
  go_wp2_with fail
  go_ret2
  exact ⟨aq3, cq3, rfl, hown3, hbw3⟩

set_option maxHeartbeats 1000000 in
theorem step_unbound (s : Option Addr) (n cs : Nat) (t : ByteArray) (v : Vv) (a : Option Addr) (len cap : Nat) (bs : List Bb) (w : World) (hrow : RowB w a bs) (hl : len ≤ bs.length) (hl' : bs.length ≤ len) (h1k : len ≤ 1000) (hL : ∀ x ∈ bs, Lt x) (H : Hid (getR bs t = ((0, 0, ⟨#[]⟩), false))) :
    Calls Try.prog 40 #[.slice s n cs, .agg #[.int .i64 1, .string t, .int .i64 v.1, .int .i64 v.2.1, .string v.2.2], .slice a len cap] w fun r w' => r = .returned (.tuple #[.slice none 0 0, .int .i64 5]) ∧ Below w.heap.size w w' := by
  have hb0 : Below w.heap.size w (w.alloc (bxO (1, t, v))) := (Below.refl _ _).alloc (Nat.le_refl _) _
  have hr0 := hrow.on hb0
  have HL := hide hL
  clear hL hrow
  go_enter Try.func40, Try.ntmps40
  go_wp2_with fail
  refine (get_any a len cap bs t _ false _ hr0 hl hl' h1k (unhide HL) H).mono ?_
  rintro r w1 ⟨rfl, hb1⟩
  have hw1 := bt hb0 hb1
  clear hb0 hb1 hr0
  go_wp2_with fail
  go_ret2
  exact ⟨rfl, hw1.alloc hw1.size _⟩

set_option maxHeartbeats 1000000 in
theorem step_bound (B : Nat) (s : Option Addr) (n cs : Nat) (st : List Vv) (t : ByteArray) (u v : Vv) (a : Option Addr) (len cap : Nat) (bs : List Bb) (w : World) (hB : B ≤ w.heap.size) (hn : n ≤ 100)
    (hs : w.ownsRow B 23 3 (.slice s n cs) n (flatV st)) (hrow : RowB w a bs) (hl : len ≤ bs.length) (hl' : bs.length ≤ len) (h1k : len ≤ 1000) (hL : ∀ x ∈ bs, Lt x) (H : Hid (getR bs t = (u, true))) :
    Calls Try.prog 40 #[.slice s n cs, .agg #[.int .i64 1, .string t, .int .i64 v.1, .int .i64 v.2.1, .string v.2.2], .slice a len cap] w fun r w' => ∃ (s' : Option Addr) (c' : Nat), r = .returned (.tuple #[.slice s' (n + 1) c', .int .i64 0]) ∧ w'.ownsRow B 23 3 (.slice s' (n + 1) c') (n + 1) (flatV (st ++ [u])) ∧ Below B w w' := by
  obtain ⟨i0, hi, hz0, hz1, hz2⟩ := info_parts infoV
  have hb0 : Below w.heap.size w (w.alloc (bxO (1, t, v))) := (Below.refl _ _).alloc (Nat.le_refl _) _
  have hr0 := hrow.on hb0
  have hs0 := hs.alloc (bxO (1, t, v))
  have HL := hide hL
  clear hL hrow
  go_enter Try.func40, Try.ntmps40
  go_wp2_with fail
  refine (get_any a len cap bs t _ true _ hr0 hl hl' h1k (unhide HL) H).mono ?_
  rintro r w1 ⟨rfl, hb1⟩
  have hw1 := (bt hb0 hb1).mono hB
  have hs1 := own_on hs0 hb1
  have hz : B ≤ w1.heap.size := Nat.le_trans hB hw1.size
  clear hb0 hb1 hr0 hs0 hs
  have hs2 := (hs1.alloc (bxV u)).alloc (bxV u)
  have hcv := hide (cells_v (box_two w1 (bxV u) u))
  have hb2 : Below B w ((w1.alloc (bxV u)).alloc (bxV u)) := (hw1.alloc hz _).alloc (by simp; omega) _
  have hsz : B ≤ ((w1.alloc (bxV u)).alloc (bxV u)).heap.size := by simp; omega
  go_wp2_with (at_builtin; refine wpList_append_own_wide _ rfl _ _ 69 rfl B 23 i0 (.agg #[.int .i64 0, .int .i64 0, .string ⟨#[]⟩]) 3 32 Try.underlying69 hi hz0 hz1 hz2 rfl (by decide) _ n (flatV st) rfl hs2 ⟨w1.heap.size + 1, 0, none⟩ 1 1 (flatV [u]) rfl ?c0 ?c1 ?c2 ?c3 ?c4 ?c5 ?_)
  case c0 => rfl
  case c1 => exact unhide hcv
  case c2 => exact flatV_oneCell [u]
  case c3 => unfold maxLen; omega
  case c4 => omega
  case c5 => exact hsz
  intro v' w3 hown3 hgrow hnil3
  obtain ⟨aq3, cq3, rfl⟩ := own_slice hown3
  have hbw3 := hb2.grown hgrow hsz (fun m hm => (hs2.lt m hm).1)
  rw [← flatV_app] at hown3
  clear hgrow hnil3 hs2 hcv hb2
  go_wp2_with fail
  go_ret2
  exact ⟨aq3, cq3, rfl, hown3, hbw3⟩
end Go.Proofs.Ytakhcifhfbiopaa.Sb
