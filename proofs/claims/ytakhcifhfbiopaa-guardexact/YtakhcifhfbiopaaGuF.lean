/- What constablekeep.Atom and constablekeep.Cond answer of twins. -/
import Derived.Test.YtakhcifhfbiopaaGuC
import Derived.Test.YtakhcifhfbiopaaMatK
namespace Go.Proofs.Ytakhcifhfbiopaa.Sb
open Go.RowKit
open V
open Ex (RowO LiesO flatO)

theorem eqT_in (x y : Bb) (w : World) : (Op.equalIn 10000 73 (.agg #[.string x.1, .int .i64 x.2.1, .int .i64 x.2.2.1, .string x.2.2.2]) (.agg #[.string y.1, .int .i64 y.2.1, .int .i64 y.2.2.1, .string y.2.2.2])).run Try.prog w = .ok (decide (x = y)) w := by
  have u9 := Try.underlying9
  have a9 := Try.isAgg9
  have z9 := Try.sizeOf9
  have a24 := Try.isAgg23
  have z24 := Try.sizeOf23
  have hS : Try.prog.underlying 73 = some (.struct (Try.prog.fieldsOf 73)) := by kernel_rfl
  have hp : Try.prog.stoodInHeld 73 = false := by kernel_rfl
  have hV := eqV_in
  rw [show (10000 : Nat) = 9999 + 1 from rfl, run_equalIn_agg w 9999 73 _ _ hS hp]
  simp only [Program.fieldsOf, Try.underlying73]
  clear hS hp
  go_simp
  simp only [toList_inj]
  obtain ⟨n, a, b, c⟩ := x
  obtain ⟨n', a', b', c'⟩ := y
  by_cases h0 : n = n' <;> by_cases h1 : a = a' <;> by_cases h2 : b = b' <;> by_cases h3 : c = c' <;> simp [h0, h1, h2, h3]
/-- Two boxes of atoms. -/
structure A2 (W : World) (b : Nat) (n : ByteArray) (a a' : Option Addr) (m mc mc' : Nat) : Prop where
  a0 : W.cell? ⟨b, 0, none⟩ = some (.string n)
  a1 : W.cell? ⟨b, 1, none⟩ = some (.slice a m mc)
  b0 : W.cell? ⟨b + 1, 0, none⟩ = some (.string n)
  b1 : W.cell? ⟨b + 1, 1, none⟩ = some (.slice a' m mc')
theorem a2_of (w : World) (n : ByteArray) (a a' : Option Addr) (m mc mc' : Nat) : A2 ((w.alloc (bxA n a m mc)).alloc (bxA n a' m mc')) w.heap.size n a a' m mc mc' ∧ Below w.heap.size w ((w.alloc (bxA n a m mc)).alloc (bxA n a' m mc')) := by
  have s1 : (w.alloc (bxA n a m mc)).heap.size = w.heap.size + 1 := by simp
  have h1 := heap_alloc_new (w.alloc (bxA n a m mc)) (bxA n a' m mc')
  rw [s1] at h1
  have h0 : ((w.alloc (bxA n a m mc)).alloc (bxA n a' m mc')).heap[w.heap.size]? = some (bxA n a m mc) := by
    rw [Lib.alloc_old _ _ _ (by omega)]; exact heap_alloc_new w (bxA n a m mc)
  obtain ⟨p0, p1⟩ := pair_of h0
  obtain ⟨q0, q1⟩ := pair_of h1
  exact ⟨⟨p0, p1, q0, q1⟩, ((Below.refl _ _).alloc (Nat.le_refl _) _).alloc (by simp) _⟩

theorem str_same (n : ByteArray) : (n.toList == n.toList) = true := by simp
set_option maxHeartbeats 4000000 in
theorem keepAtom_same (n : ByteArray) (a a' : Option Addr) (m mc mc' : Nat) (ts : List Bb) (w : World) (hA : Lies w a m mc ts) (hA' : Lies w a' m mc' ts) (hm20 : m ≤ 1000) :
    Calls Try.prog 32 #[.agg #[.string n, .slice a m mc], .agg #[.string n, .slice a' m mc']] w fun e w' => e = .returned (.bool true) ∧ Below w.heap.size w w' := by
  obtain ⟨T0, hb0⟩ := a2_of w n a a' m mc mc'
  have hl := hA.le
  have hl' := hA.ge
  have hr0 := hA.row.on hb0
  have hr0' := hA'.row.on hb0
  have es := str_same n
  clear hA hA'
  obtain ⟨a0, a1, b0, b1⟩ := T0
  go_enter Try.func32, Try.ntmps32
  go_wp2_with fail
  clear es
  generalize (w.alloc (bxA n a m mc)).alloc (bxA n a' m mc') = W at hb0 hr0 hr0' a0 a1 b0 b1
  go_loopw [5] (fun i wr => ∃ k : Nat, k ≤ m ∧ i = .int .i64 k ∧ (∃ d, wr = W.drewN d)) (fun i _ => m - (intOf i).toNat)
  case atStart => exact ⟨0, Nat.zero_le _, rfl, 0, rfl⟩
  case round =>
    obtain ⟨k, hk, rfl, d, rfl⟩ := hrel
    by_cases hlt : k < m
    · obtain ⟨b, o, ha, hbl, c0, c1, c2, c3⟩ := hr0.up (show k < ts.length by omega)
      obtain ⟨b', o', ha', hbl', c0', c1', c2', c3'⟩ := hr0'.up (show k < ts.length by omega)
      subst ha
      subst ha'
      have hE := eqT_in ts[k] ts[k]
      rw [decide_eq_true rfl] at hE
      generalize ts[k] = x at c0 c1 c2 c3 hE c0' c1' c2' c3'
      go_wp2_with fail
      go_quiet (fail)
      go_wp2_with fail
      go_roundw
      case rel => exact ⟨k + 1, by omega, by go_num, d + nq, by simp⟩
      case measure => simp [intOf]; omega
    · go_wp2_with fail
      go_ret
      exact ⟨rfl, below_drewN hb0 d⟩

theorem keepOps_same (a a' : Option Addr) (len cap cap' : Nat) (xs : List Oo) (w : World) (hA : LiesO w a len cap xs) (hA' : LiesO w a' len cap' xs) (h1k : len ≤ 1000) :
    Calls Try.prog 33 #[.slice a len cap, .slice a' len cap'] w fun e w' => e = .returned (.bool true) ∧ Below w.heap.size w w' := by
  have := keepOps_any a a' len len cap cap' xs xs w hA.row hA'.row hA.le hA.ge hA'.le hA'.ge h1k
  rw [decide_eq_true (rfl : xs = xs)] at this
  exact this
/-- Another one with the same rows, elsewhere. -/
abbrev Cd.tw (c : Cd) (a' : Option Addr) (mc' : Nat) (la' : Option Addr) (lc' : Nat) (ra' : Option Addr) (rc' : Nat) : Cd := ⟨c.k, c.n, a', c.m, mc', c.ts, c.h, la', c.ll, lc', c.xs, ra', c.rl, rc', c.ys⟩
/-- Two boxes of conditions. -/
theorem c2_of (w : World) (c d : Cd) : BC ((w.alloc (bxC c)).alloc (bxC d)) w.heap.size c ∧ BC ((w.alloc (bxC c)).alloc (bxC d)) (w.heap.size + 1) d ∧ Below w.heap.size w ((w.alloc (bxC c)).alloc (bxC d)) := by
  have s1 : (w.alloc (bxC c)).heap.size = w.heap.size + 1 := by simp
  have h1 := heap_alloc_new (w.alloc (bxC c)) (bxC d)
  rw [s1] at h1
  have h0 : ((w.alloc (bxC c)).alloc (bxC d)).heap[w.heap.size]? = some (bxC c) := by
    rw [Lib.alloc_old _ _ _ (by omega)]; exact heap_alloc_new w (bxC c)
  exact ⟨bc_of h0, bc_of h1, ((Below.refl _ _).alloc (Nat.le_refl _) _).alloc (by simp) _⟩
theorem int_same (k : Int) : (k == k) = true := by simp

set_option maxHeartbeats 4000000 in
theorem keepCond_same (c : Cd) (a' : Option Addr) (mc' : Nat) (la' : Option Addr) (lc' : Nat) (ra' : Option Addr) (rc' : Nat) (w : World) (hc : c.In w) (hd : (c.tw a' mc' la' lc' ra' rc').In w) (hL : c.Light) :
    Calls Try.prog 13 #[.agg #[.int .i64 c.k, .string c.n, .slice c.a c.m c.mc, .int .i64 c.h, .slice c.la c.ll c.lc, .slice c.ra c.rl c.rc], .agg #[.int .i64 c.k, .string c.n, .slice a' c.m mc', .int .i64 c.h, .slice la' c.ll lc', .slice ra' c.rl rc']] w fun e w' => e = .returned (.bool true) ∧ Below w.heap.size w w' := by
  obtain ⟨T0, S0, hw0⟩ := c2_of w c (c.tw a' mc' la' lc' ra' rc')
  have hc0 := hc.on hw0
  have hd0 := hd.on hw0
  have ek := int_same c.k
  have eh := int_same c.h
  clear hc hd
  obtain ⟨c0, c1, c2, c3, c4, c5⟩ := T0
  obtain ⟨d0, d1, d2, d3, d4, d5⟩ := S0
  go_enter Try.func13, Try.ntmps13
  go_wp2_with fail
  refine (keepAtom_same c.n c.a a' c.m c.mc mc' c.ts _ hc0.t hd0.t (by have := hL.m; omega)).mono ?_
  rintro e w1 ⟨rfl, hb1⟩
  have T1 := (BC.mk (c := c) c0 c1 c2 c3 c4 c5).on hb1
  have S1 := (BC.mk (c := c.tw a' mc' la' lc' ra' rc') d0 d1 d2 d3 d4 d5).on hb1
  have hc1 := hc0.on hb1
  have hd1 := hd0.on hb1
  have hw1 := bt hw0 hb1
  clear hc0 hd0 hw0 hb1 c0 c1 c2 c3 c4 c5 d0 d1 d2 d3 d4 d5
  obtain ⟨c0, c1, c2, c3, c4, c5⟩ := T1
  obtain ⟨d0, d1, d2, d3, d4, d5⟩ := S1
  go_wp2_with fail
  refine (keepOps_same c.la la' c.ll c.lc lc' c.xs _ hc1.x hd1.x (by have := hL.l; omega)).mono ?_
  rintro e w2 ⟨rfl, hb2⟩
  have T2 := (BC.mk (c := c) c0 c1 c2 c3 c4 c5).on hb2
  have S2 := (BC.mk (c := c.tw a' mc' la' lc' ra' rc') d0 d1 d2 d3 d4 d5).on hb2
  have hc2 := hc1.on hb2
  have hd2 := hd1.on hb2
  have hw2 := bt hw1 hb2
  clear hc1 hd1 hw1 hb2 c0 c1 c2 c3 c4 c5 d0 d1 d2 d3 d4 d5
  obtain ⟨c0, c1, c2, c3, c4, c5⟩ := T2
  obtain ⟨d0, d1, d2, d3, d4, d5⟩ := S2
  go_wp2_with fail
  refine (keepOps_same c.ra ra' c.rl c.rc rc' c.ys _ hc2.y hd2.y (by have := hL.r; omega)).mono ?_
  rintro e w3 ⟨rfl, hb3⟩
  have T3 := (BC.mk (c := c) c0 c1 c2 c3 c4 c5).on hb3
  have S3 := (BC.mk (c := c.tw a' mc' la' lc' ra' rc') d0 d1 d2 d3 d4 d5).on hb3
  have hc3 := hc2.on hb3
  have hd3 := hd2.on hb3
  have hw3 := bt hw2 hb3
  clear hc2 hd2 hw2 hb3 c0 c1 c2 c3 c4 c5 d0 d1 d2 d3 d4 d5
  clear T3 S3 hc3 hd3 ek eh
  go_wp2_with fail
  go_ret
  exact ⟨rfl, hw3⟩
end Go.Proofs.Ytakhcifhfbiopaa.Sb
