/- What the document's Get, subst.copied, subst.Get answer. -/
import Derived.Test.YtakhcifhfbiopaaSubE
namespace Go.Proofs.Ytakhcifhfbiopaa.Sb
open Go.RowKit
open V

/-- What is got, and whether. -/
def getR (xs : List Bb) (n : ByteArray) : Vv × Bool := match getL xs n with
  | some v => (v, true)
  | none => ((0, 0, ⟨#[]⟩), false)
theorem getR_some {xs : List Bb} {n : ByteArray} {v : Vv} (h : getL xs n = some v) : getR xs n = (v, true) := by simp [getR, h]
theorem getR_none {xs : List Bb} {n : ByteArray} (h : getL xs n = none) : getR xs n = ((0, 0, ⟨#[]⟩), false) := by simp [getR, h]
theorem str_t {a b : ByteArray} (h : a = b) : (a.toList == b.toList) = true := by rw [h]; simp
theorem str_f {a b : ByteArray} (h : a ≠ b) : (a.toList == b.toList) = false := by rw [bytes_eq]; exact decide_eq_false h

theorem trip_of {w : World} {b : Nat} {v : Vv} {T : TypeId} (h : w.heap[b]? = some (.cells #[.int .i64 v.1, .int .i64 v.2.1, .string v.2.2] T)) : w.cell? ⟨b, 0, none⟩ = some (.int .i64 v.1) ∧ w.cell? ⟨b, 1, none⟩ = some (.int .i64 v.2.1) ∧ w.cell? ⟨b, 2, none⟩ = some (.string v.2.2) := by
  refine ⟨?_, ?_, ?_⟩ <;> (rw [Lib.cell_of_heap h]; rfl)

set_option maxHeartbeats 2000000 in
theorem refGet_any (a : Option Addr) (len cap : Nat) (xs : List Bb) (n : ByteArray) (v : Vv) (q : Bool) (w : World) (hrow : RowB w a xs) (hl : len ≤ xs.length) (hl' : xs.length ≤ len) (h1k : len ≤ 1000) (H : Hid (getR xs n = (v, q))) :
    Calls Try.prog 53 #[.slice a len cap, .string n] w fun e w' => e = .returned (.tuple #[.agg #[.int .i64 v.1, .int .i64 v.2.1, .string v.2.2], .bool q]) ∧ Below w.heap.size w w' := by
  have hb0 : Below w.heap.size w (w.alloc (.cells #[.int .i64 0, .int .i64 0, .string ⟨#[]⟩] 23)) := (Below.refl _ _).alloc (Nat.le_refl _) _
  have hrow0 := hrow.on hb0
  have hz := heap_alloc_new w (.cells #[.int .i64 0, .int .i64 0, .string ⟨#[]⟩] 23)
  obtain ⟨z0, z1, z2⟩ := trip_of (v := (0, 0, ⟨#[]⟩)) hz
  have f0 := Lib.frozen_of_heap hz 0
  have f1 := Lib.frozen_of_heap hz 1
  have f2 := Lib.frozen_of_heap hz 2
  go_enter Try.func53, Try.ntmps53
  go_wp2_with fail
  generalize w.alloc (.cells #[.int .i64 0, .int .i64 0, .string ⟨#[]⟩] 23) = W at hb0 hrow0 z0 z1 z2 f0 f1 f2
  go_loopw [6] (fun i wr => ∃ k : Nat, k ≤ len ∧ i = .int .i64 k ∧ Hid (∀ j (_ : j < xs.length), j < k → xs[j].1 ≠ n) ∧ wr = W) (fun i _ => len - (intOf i).toNat)
  case atStart => exact ⟨0, Nat.zero_le _, rfl, hide (fun j _ h => by omega), rfl⟩
  case round =>
    obtain ⟨k, hk, rfl, HK, hwr⟩ := hrel
    subst hwr
    by_cases hlt : k < len
    · obtain ⟨b, o, ha, hbl, c0, c1, c2, c3⟩ := hrow0.up (show k < xs.length by omega)
      subst ha
      by_cases he : xs[k].1 = n
      · have HG : Hid (xs[k].2 = v ∧ true = q) := by
          refine hide ?_
          have := unhide H
          rw [getR_some (get_first (show k < xs.length by omega) (fun j hj hjk => unhide HK j hj hjk) he)] at this
          simpa using this
        have d0 := str_t he
        clear he
        generalize xs[k] = x at c0 c1 c2 c3 d0 HG
        obtain ⟨hv, hq⟩ := unhide HG
        subst hv hq
        go_wp2_with fail
        refine bodyPost_ret (v := .tuple #[.agg #[.int .i64 x.2.1, .int .i64 x.2.2.1, .string x.2.2.2], .bool true]) (by simp [results, Try.results53, go_sem, z0, z1, z2]) rfl ?_
        exact ⟨rfl, ((hb0.setCell (p := ⟨w.heap.size, 0, none⟩) (Nat.le_refl _) _).setCell (p := ⟨w.heap.size, 1, none⟩) (Nat.le_refl _) _).setCell (p := ⟨w.heap.size, 2, none⟩) (Nat.le_refl _) _⟩
      · have HN : Hid (∀ j (_ : j < xs.length), j < k + 1 → xs[j].1 ≠ n) := by
          refine hide (fun j hj hjk => ?_)
          by_cases e : j < k
          · exact unhide HK j hj e
          · have : j = k := by omega
            subst this; exact he
        have d0 := str_f he
        clear he
        generalize xs[k] = x at c0 c1 c2 c3 d0
        go_wp2_with fail
        go_roundw
        case rel => exact ⟨k + 1, by omega, by go_num, HN, trivial⟩
        case measure => simp [intOf]; omega
    · have HG : Hid ((0, 0, ⟨#[]⟩) = v ∧ false = q) := by
        refine hide ?_
        have := unhide H
        rw [getR_none (get_end (fun j hj => unhide HK j hj (by omega)))] at this
        simpa using this
      obtain ⟨hv, hq⟩ := unhide HG
      subst hv hq
      go_wp2_with fail
      refine bodyPost_ret (v := .tuple #[.agg #[.int .i64 0, .int .i64 0, .string ⟨#[]⟩], .bool false]) (by simp [results, Try.results53, go_sem, z0, z1, z2]) rfl ?_
      exact ⟨rfl, ((hb0.setCell (p := ⟨w.heap.size, 0, none⟩) (Nat.le_refl _) _).setCell (p := ⟨w.heap.size, 1, none⟩) (Nat.le_refl _) _).setCell (p := ⟨w.heap.size, 2, none⟩) (Nat.le_refl _) _⟩

set_option maxHeartbeats 2000000 in
theorem copied_any (v : Vv) (w : World) (hs : v.2.2.size ≤ 1000) :
    Calls Try.prog 67 #[.agg #[.int .i64 v.1, .int .i64 v.2.1, .string v.2.2]] w fun e w' => e = .returned (.agg #[.int .i64 v.1, .int .i64 v.2.1, .string v.2.2]) ∧ Below w.heap.size w w' := by
  have hb0 : Below w.heap.size w ((w.alloc (.cells #[.int .i64 v.1, .int .i64 v.2.1, .string v.2.2] 23)).alloc (.cells #[.int .i64 0, .int .i64 0, .string ⟨#[]⟩] 23)) := ((Below.refl _ _).alloc (Nat.le_refl _) _).alloc (by simp) _
  have k1 := heap_alloc_new (w.alloc (.cells #[.int .i64 v.1, .int .i64 v.2.1, .string v.2.2] 23)) (.cells #[.int .i64 0, .int .i64 0, .string ⟨#[]⟩] 23)
  rw [show (w.alloc (.cells #[.int .i64 v.1, .int .i64 v.2.1, .string v.2.2] 23)).heap.size = w.heap.size + 1 by simp] at k1
  have k0 : ((w.alloc (.cells #[.int .i64 v.1, .int .i64 v.2.1, .string v.2.2] 23)).alloc (.cells #[.int .i64 0, .int .i64 0, .string ⟨#[]⟩] 23)).heap[w.heap.size]? = some (.cells #[.int .i64 v.1, .int .i64 v.2.1, .string v.2.2] 23) :=
    (Lib.alloc_old _ _ _ (by simp)).trans (heap_alloc_new w _)
  have hsz : ((w.alloc (.cells #[.int .i64 v.1, .int .i64 v.2.1, .string v.2.2] 23)).alloc (.cells #[.int .i64 0, .int .i64 0, .string ⟨#[]⟩] 23)).heap.size = w.heap.size + 1 + 1 := by simp
  go_enter Try.func67, Try.ntmps67
  go_wp2_with fail
  refine (clone_any v.2.2 _ hs).mono ?_
  rintro e w1 ⟨rfl, hb1⟩
  have j0 := (hb1.block w.heap.size (by rw [hsz]; omega)).trans k0
  have j1 := (hb1.block (w.heap.size + 1) (by rw [hsz]; omega)).trans k1
  have hw1 := bt hb0 hb1
  clear k0 k1 hb0 hb1 hsz
  obtain ⟨x0, x1, x2⟩ := trip_of j0
  obtain ⟨z0, z1, z2⟩ := trip_of (v := (0, 0, ⟨#[]⟩)) j1
  have g2 := Lib.frozen_of_heap j0 2
  have f0 := Lib.frozen_of_heap j1 0
  have f1 := Lib.frozen_of_heap j1 1
  have f2 := Lib.frozen_of_heap j1 2
  clear j0 j1
  go_wp2_with fail
  refine bodyPost_ret (v := .agg #[.int .i64 v.1, .int .i64 v.2.1, .string v.2.2]) (by simp [results, Try.results67, go_sem, z0, z1, z2]) rfl ?_
  exact ⟨rfl, (((hw1.setCell (p := ⟨w.heap.size, 2, none⟩) (Nat.le_refl _) _).setCell (p := ⟨w.heap.size + 1, 0, none⟩) (Nat.le_succ _) _).setCell (p := ⟨w.heap.size + 1, 1, none⟩) (Nat.le_succ _) _).setCell (p := ⟨w.heap.size + 1, 2, none⟩) (Nat.le_succ _) _⟩

set_option maxHeartbeats 2000000 in
theorem get_any (a : Option Addr) (len cap : Nat) (xs : List Bb) (n : ByteArray) (v : Vv) (q : Bool) (w : World) (hrow : RowB w a xs) (hl : len ≤ xs.length) (hl' : xs.length ≤ len) (h1k : len ≤ 1000) (hL : ∀ x ∈ xs, Lt x) (H : Hid (getR xs n = (v, q))) :
    Calls Try.prog 57 #[.slice a len cap, .string n] w fun e w' => e = .returned (.tuple #[.agg #[.int .i64 v.1, .int .i64 v.2.1, .string v.2.2], .bool q]) ∧ Below w.heap.size w w' := by
  have hb0 : Below w.heap.size w (w.alloc (.cells #[.int .i64 0, .int .i64 0, .string ⟨#[]⟩] 23)) := (Below.refl _ _).alloc (Nat.le_refl _) _
  have hsz : w.heap.size + 1 ≤ (w.alloc (.cells #[.int .i64 0, .int .i64 0, .string ⟨#[]⟩] 23)).heap.size := by simp
  have hz := heap_alloc_new w (.cells #[.int .i64 0, .int .i64 0, .string ⟨#[]⟩] 23)
  go_enter Try.func57, Try.ntmps57
  go_wp2_with fail
  generalize w.alloc (.cells #[.int .i64 0, .int .i64 0, .string ⟨#[]⟩] 23) = W at hb0 hz hsz
  go_loopw [7, 10] (fun _ i wr => ∃ k : Nat, k ≤ len ∧ i = .int .i64 k ∧ Hid (∀ j (_ : j < xs.length), j < k → xs[j].1 ≠ n) ∧ Below W.heap.size W wr) (fun _ i _ => len - (intOf i).toNat)
  case atStart => exact ⟨0, Nat.zero_le _, rfl, hide (fun j _ h => by omega), Below.refl _ _⟩
  case round =>
    obtain ⟨k, hk, rfl, HK, hbw⟩ := hrel
    have hww := bt hb0 hbw
    have hzr := (hbw.block w.heap.size (by omega)).trans hz
    have hsr : w.heap.size + 1 ≤ wr.heap.size := by have := hbw.size; omega
    by_cases hlt : k < len
    · obtain ⟨b, o, ha, hbl, c0, c1, c2, c3⟩ := (hrow.on hww).up (show k < xs.length by omega)
      subst ha
      have lx := hL xs[k] (List.getElem_mem (by omega))
      by_cases he : xs[k].1 = n
      · have HG : Hid (xs[k].2 = v ∧ true = q) := by
          refine hide ?_
          have := unhide H
          rw [getR_some (get_first (show k < xs.length by omega) (fun j hj hjk => unhide HK j hj hjk) he)] at this
          simpa using this
        have d0 := str_t he
        clear he
        generalize xs[k] = x at c0 c1 c2 c3 d0 HG lx
        obtain ⟨hv, hq⟩ := unhide HG
        subst hv hq
        have hbx : Below wr.heap.size wr (wr.alloc (bxB x)) := (Below.refl _ _).alloc (Nat.le_refl _) _
        go_wp2_with fail
        refine (copied_any x.2 _ (by have := lx.2; omega)).mono ?_
        rintro e w1 ⟨rfl, hb1⟩
        have hw1 := bt (bt hww hbx) hb1
        have hz1 := ((bt hbx hb1).block w.heap.size (by omega)).trans hzr
        obtain ⟨z0, z1, z2⟩ := trip_of (v := (0, 0, ⟨#[]⟩)) hz1
        have f0 := Lib.frozen_of_heap hz1 0
        have f1 := Lib.frozen_of_heap hz1 1
        have f2 := Lib.frozen_of_heap hz1 2
        clear hbx hb1 hz1 hzr c0 c1 c2 c3
        go_wp2_with fail
        refine bodyPost_ret (v := .tuple #[.agg #[.int .i64 x.2.1, .int .i64 x.2.2.1, .string x.2.2.2], .bool true]) (by simp [results, Try.results57, go_sem, z0, z1, z2]) rfl ?_
        exact ⟨rfl, ((hw1.setCell (p := ⟨w.heap.size, 0, none⟩) (Nat.le_refl _) _).setCell (p := ⟨w.heap.size, 1, none⟩) (Nat.le_refl _) _).setCell (p := ⟨w.heap.size, 2, none⟩) (Nat.le_refl _) _⟩
      · have HN : Hid (∀ j (_ : j < xs.length), j < k + 1 → xs[j].1 ≠ n) := by
          refine hide (fun j hj hjk => ?_)
          by_cases e : j < k
          · exact unhide HK j hj e
          · have : j = k := by omega
            subst this; exact he
        have d0 := str_f he
        clear he
        generalize xs[k] = x at c0 c1 c2 c3 d0 lx
        have hbx : Below W.heap.size W (wr.alloc (bxB x)) := hbw.alloc hbw.size _
        go_wp2_with fail
        go_roundw
        case rel => exact ⟨k + 1, by omega, by go_num, HN, hbx⟩
        case measure => simp [intOf]; omega
    · have HG : Hid ((0, 0, ⟨#[]⟩) = v ∧ false = q) := by
        refine hide ?_
        have := unhide H
        rw [getR_none (get_end (fun j hj => unhide HK j hj (by omega)))] at this
        simpa using this
      obtain ⟨hv, hq⟩ := unhide HG
      subst hv hq
      obtain ⟨z0, z1, z2⟩ := trip_of (v := (0, 0, ⟨#[]⟩)) hzr
      have f0 := Lib.frozen_of_heap hzr 0
      have f1 := Lib.frozen_of_heap hzr 1
      have f2 := Lib.frozen_of_heap hzr 2
      go_wp2_with fail
      refine bodyPost_ret (v := .tuple #[.agg #[.int .i64 0, .int .i64 0, .string ⟨#[]⟩], .bool false]) (by simp [results, Try.results57, go_sem, z0, z1, z2]) rfl ?_
      exact ⟨rfl, ((hww.setCell (p := ⟨w.heap.size, 0, none⟩) (Nat.le_refl _) _).setCell (p := ⟨w.heap.size, 1, none⟩) (Nat.le_refl _) _).setCell (p := ⟨w.heap.size, 2, none⟩) (Nat.le_refl _) _⟩
end Go.Proofs.Ytakhcifhfbiopaa.Sb
