/- How a comparison lies in memory; what the law's Heavy of one, guard.isZero, guard.Check answer. -/
import Derived.Test.YtakhcifhfbiopaaGuB
import Derived.Test.YtakhcifhfbiopaaExpK
import Derived.Test.YtakhcifhfbiopaaMatF
import Derived.Deep.RegionHeld3
namespace Go.Proofs.Ytakhcifhfbiopaa.Sb
open Go.RowKit
open V
open Ex (RowO LiesO flatO)

/-- A condition, as it is handed on: kind, atom, way, two sides. -/
structure Cd where
  k : Int
  n : ByteArray
  a : Option Addr
  m : Nat
  mc : Nat
  ts : List Bb
  h : Int
  la : Option Addr
  ll : Nat
  lc : Nat
  xs : List Oo
  ra : Option Addr
  rl : Nat
  rc : Nat
  ys : List Oo
/-- Its rows lie there. -/
structure Cd.In (c : Cd) (w : World) : Prop where
  t : Lies w c.a c.m c.mc c.ts
  x : LiesO w c.la c.ll c.lc c.xs
  y : LiesO w c.ra c.rl c.rc c.ys
/-- Not too long to be played. -/
structure Cd.Light (c : Cd) : Prop where
  n : c.n.size ≤ 200
  m : c.m ≤ 20
  l : c.ll ≤ 40
  r : c.rl ≤ 40
  t : ∀ t ∈ c.ts, Lt t
  x : ∀ x ∈ c.xs, LtO x
  y : ∀ x ∈ c.ys, LtO x
theorem Cd.In.on {c : Cd} {w w' : World} (h : c.In w) (hb : Below w.heap.size w w') : c.In w' := ⟨h.t.on hb, h.x.on hb, h.y.on hb⟩
abbrev bxC (c : Cd) : Obj := .cells #[.int .i64 c.k, .string c.n, .slice c.a c.m c.mc, .int .i64 c.h, .slice c.la c.ll c.lc, .slice c.ra c.rl c.rc] 29
/-- Its box. -/
structure BC (W : World) (b : Nat) (c : Cd) : Prop where
  c0 : W.cell? ⟨b, 0, none⟩ = some (.int .i64 c.k)
  c1 : W.cell? ⟨b, 1, none⟩ = some (.string c.n)
  c2 : W.cell? ⟨b, 2, none⟩ = some (.slice c.a c.m c.mc)
  c3 : W.cell? ⟨b, 3, none⟩ = some (.int .i64 c.h)
  c4 : W.cell? ⟨b, 4, none⟩ = some (.slice c.la c.ll c.lc)
  c5 : W.cell? ⟨b, 5, none⟩ = some (.slice c.ra c.rl c.rc)
theorem bc_of {W : World} {b : Nat} {c : Cd} (h : W.heap[b]? = some (bxC c)) : BC W b c := by
  refine ⟨?_, ?_, ?_, ?_, ?_, ?_⟩ <;> (rw [Lib.cell_of_heap h]; rfl)
theorem BC.on {W w1 : World} {b : Nat} {c : Cd} (T : BC W b c) (hb : Below W.heap.size W w1) : BC w1 b c :=
  ⟨cell_on hb T.c0, cell_on hb T.c1, cell_on hb T.c2, cell_on hb T.c3, cell_on hb T.c4, cell_on hb T.c5⟩
theorem below_new (w : World) (o : Obj) : Below w.heap.size w (w.alloc o) := (Below.refl _ _).alloc (Nat.le_refl _) _

set_option maxHeartbeats 2000000 in
theorem cheavy_any (c : Cd) (w : World) (hc : c.In w) :
    Calls Try.prog 7 #[.agg #[.int .i64 c.k, .string c.n, .slice c.a c.m c.mc, .int .i64 c.h, .slice c.la c.ll c.lc, .slice c.ra c.rl c.rc]] w fun e w' => ((e = .returned (.bool true)) ∨ (e = .returned (.bool false) ∧ c.Light)) ∧ Below w.heap.size w w' := by
  have hb0 := below_new w (bxC c)
  have T0 := bc_of (heap_alloc_new w (bxC c))
  have hc0 := hc.on hb0
  go_enter Try.func7, Try.ntmps7
  go_wp2_with fail
  generalize w.alloc (bxC c) = W at hb0 T0 hc0
  refine (aheavy_any c.n c.a c.m c.mc c.ts W hc0.t).mono ?_
  rintro e w1 ⟨rfl | ⟨rfl, hn, hm, ht⟩, hb1⟩
  · clear T0 hc0
    go_wp2_with fail
    go_ret
    exact ⟨Or.inl rfl, bt hb0 hb1⟩
  have T1 := T0.on hb1
  have hc1 := hc0.on hb1
  have hw1 := bt hb0 hb1
  clear T0 hc0 hb0 hb1
  obtain ⟨c0, c1, c2, c3, c4, c5⟩ := T1
  go_wp2_with fail
  refine (oheavy_any c.la c.ll c.lc c.xs w1 hc1.x.row hc1.x.le hc1.x.ge).mono ?_
  rintro e w2 ⟨rfl | ⟨rfl, hl, hx⟩, hb2⟩
  · clear hc1 c0 c1 c2 c3 c4 c5
    go_wp2_with fail
    go_ret
    exact ⟨Or.inl rfl, bt hw1 hb2⟩
  have T2 := (BC.mk c0 c1 c2 c3 c4 c5).on hb2
  have hc2 := hc1.on hb2
  have hw2 := bt hw1 hb2
  clear hc1 hw1 hb2 c0 c1 c2 c3 c4 c5
  obtain ⟨c0, c1, c2, c3, c4, c5⟩ := T2
  go_wp2_with fail
  refine (oheavy_any c.ra c.rl c.rc c.ys w2 hc2.y.row hc2.y.le hc2.y.ge).mono ?_
  rintro e w3 ⟨rfl | ⟨rfl, hr, hy⟩, hb3⟩
  · clear hc2 c0 c1 c2 c3 c4 c5
    go_wp2_with fail
    go_ret
    exact ⟨Or.inl rfl, bt hw2 hb3⟩
  clear hc2 c0 c1 c2 c3 c4 c5
  have HL := hide (show c.Light from ⟨hn, hm, hl, hr, ht, hx, hy⟩)
  clear hn hm hl hr ht hx hy
  go_wp2_with fail
  go_ret
  exact ⟨Or.inr ⟨rfl, unhide HL⟩, bt hw2 hb3⟩

theorem isZero_q (n : ByteArray) (a : Option Addr) (m mc : Nat) (q : Bool) (w : World) (H : Hid ((decide (n.size = 0) && decide (m = 0)) = q)) :
    Calls Try.prog 34 #[.agg #[.string n, .slice a m mc]] w fun e w' => e = .returned (.bool q) ∧ Below w.heap.size w w' := by
  by_cases hn : n.size = 0
  · have e1 := emp_t hn
    by_cases hm : m = 0
    · have HQ := hide (show true = q by rw [← unhide H]; simp [hn, hm])
      have e2 : ((m : Int) == 0) = true := by simp [hm]
      clear H hn
      go_enter Try.func34, Try.ntmps34
      go_wp2_with fail
      go_ret
      exact ⟨ret_bool' (unhide HQ), below_new w _⟩
    · have HQ := hide (show false = q by rw [← unhide H]; simp [hm])
      have e2 : ((m : Int) == 0) = false := by simp [hm]
      clear H hn hm
      go_enter Try.func34, Try.ntmps34
      go_wp2_with fail
      go_ret
      exact ⟨ret_bool' (unhide HQ), below_new w _⟩
  · have e1 := emp_f hn
    have HQ := hide (show false = q by rw [← unhide H]; simp [hn])
    clear H hn
    go_enter Try.func34, Try.ntmps34
    go_wp2_with fail
    go_ret
    exact ⟨ret_bool' (unhide HQ), below_new w _⟩
theorem echeck_x (a : Option Addr) (len cap : Nat) (xs : List Oo) (r : Int) (w : World) (hA : LiesO w a len cap xs) (hL : ∀ x ∈ xs, LtO x) (h1k : len ≤ 1000) (H : Hid (chk (exprB xs) = r)) :
    Calls Try.prog 35 #[.slice a len cap] w fun e w' => e = .returned (.int .i64 r) ∧ Below w.heap.size w w' := by
  have := echeck_any a len cap xs w hA.row hA.le hA.ge hL h1k
  rw [unhide H] at this
  exact this

set_option maxHeartbeats 2000000 in
theorem gcheck_any (c : Cd) (r : Int) (w : World) (hc : c.In w) (hL : c.Light) (H : Hid (chk (guardB c.k c.n c.m c.h c.xs c.ys) = r)) :
    Calls Try.prog 15 #[.agg #[.int .i64 c.k, .string c.n, .slice c.a c.m c.mc, .int .i64 c.h, .slice c.la c.ll c.lc, .slice c.ra c.rl c.rc]] w fun e w' => e = .returned (.int .i64 r) ∧ Below w.heap.size w w' := by
  have hb0 := below_new w (bxC c)
  have T0 := bc_of (heap_alloc_new w (bxC c))
  have hc0 := hc.on hb0
  by_cases hk : c.k = 3
  case neg =>
    have ek : (c.k != 3) = true := by simp [hk]
    have HR := hide (show (1 : Int) = r by rw [← unhide H]; simp [guardB, hk, chk])
    clear T0 hc0 hk H hL hc
    go_enter Try.func15, Try.ntmps15
    go_wp2_with fail
    go_ret
    exact ⟨ret_int (unhide HR), hb0⟩
  have ek : (c.k != 3) = false := by simp [hk]
  obtain ⟨p, hp⟩ : ∃ p, (decide (c.n.size = 0) && decide (c.m = 0)) = p := ⟨_, rfl⟩
  have F1 := fun W => isZero_q c.n c.a c.m c.mc p W (hide hp)
  have HK := hide hk
  clear hk
  go_enter Try.func15, Try.ntmps15
  go_wp2_with fail
  clear ek
  generalize w.alloc (bxC c) = W at hb0 T0 hc0
  refine (F1 _).mono ?_
  rintro e w1 ⟨rfl, hb1⟩
  have T1 := T0.on hb1
  have hc1 := hc0.on hb1
  have hw1 := bt hb0 hb1
  clear T0 hc0 hb0 hb1 F1
  cases p with
  | false =>
    have HR := hide (show (1 : Int) = r by
      rw [← unhide H, show guardB c.k c.n c.m c.h c.xs c.ys = false from by simp only [guardB, ← Bool.and_assoc (decide (c.n.size = 0)), hp]; simp]; rfl)
    clear T1 hc1 H hL hc hp
    go_wp2_with fail
    go_ret
    exact ⟨ret_int (unhide HR), hw1⟩
  | true =>
  have HZ := hide hp
  clear hp
  obtain ⟨c0, c1, c2, c3, c4, c5⟩ := T1
  obtain ⟨p, hp⟩ : ∃ p, wayB c.h = p := ⟨_, rfl⟩
  have F1 := isWay_q c.h p w1 (hide hp)
  go_wp2_with fail
  refine F1.mono ?_
  rintro e w2 ⟨rfl, hw2⟩
  subst hw2
  clear F1
  cases p with
  | false =>
    have HR := hide (show (1 : Int) = r by
      rw [← unhide H, show guardB c.k c.n c.m c.h c.xs c.ys = false from by simp [guardB, hp]]; rfl)
    clear c0 c1 c2 c3 c4 c5 hc1 H hL hc hp
    go_wp2_with fail
    go_ret
    exact ⟨ret_int (unhide HR), hw1⟩
  | true =>
  have HY := hide hp
  clear hp
  obtain ⟨p, hp⟩ : ∃ p, exprB c.xs = p := ⟨_, rfl⟩
  have F1 := echeck_x c.la c.ll c.lc c.xs (chk p) w2 hc1.x hL.x (by have := hL.l; omega) (hide (by rw [hp]))
  go_wp2_with fail
  refine F1.mono ?_
  rintro e w3 ⟨rfl, hb3⟩
  have T3 := (BC.mk c0 c1 c2 c3 c4 c5).on hb3
  have hc3 := hc1.on hb3
  have hw3 := bt hw1 hb3
  clear F1 hc1 hw1 hb3 c0 c1 c2 c3 c4 c5
  cases p with
  | false =>
    have HR := hide (show (1 : Int) = r by
      rw [← unhide H, show guardB c.k c.n c.m c.h c.xs c.ys = false from by simp [guardB, hp]]; rfl)
    clear T3 hc3 H hL hc hp
    rw [show chk false = 1 from rfl]
    go_wp2_with fail
    go_ret
    exact ⟨ret_int (unhide HR), hw3⟩
  | true =>
  have HX := hide hp
  clear hp
  rw [show chk true = 0 from rfl]
  obtain ⟨c0, c1, c2, c3, c4, c5⟩ := T3
  obtain ⟨p, hp⟩ : ∃ p, exprB c.ys = p := ⟨_, rfl⟩
  have F1 := echeck_x c.ra c.rl c.rc c.ys (chk p) w3 hc3.y hL.y (by have := hL.r; omega) (hide (by rw [hp]))
  go_wp2_with fail
  refine F1.mono ?_
  rintro e w4 ⟨rfl, hb4⟩
  have hw4 := bt hw3 hb4
  clear F1 hc3 hw3 hb4 c0 c1 c2 c3 c4 c5
  cases p with
  | false =>
    have HR := hide (show (1 : Int) = r by
      rw [← unhide H, show guardB c.k c.n c.m c.h c.xs c.ys = false from by simp [guardB, hp]]; rfl)
    clear H hL hc hp
    rw [show chk false = 1 from rfl]
    go_wp2_with fail
    go_ret
    exact ⟨ret_int (unhide HR), hw4⟩
  | true =>
  have HR := hide (show (0 : Int) = r by
    have hz := unhide HZ
    simp only [Bool.and_eq_true, decide_eq_true_eq] at hz
    rw [← unhide H, guard_iff.2 ⟨unhide HK, hz.1, hz.2, unhide HY, unhide HX, hp⟩]; rfl)
  clear H hL hc hp
  rw [show chk true = 0 from rfl]
  go_wp2_with fail
  go_ret
  exact ⟨ret_int (unhide HR), hw4⟩
end Go.Proofs.Ytakhcifhfbiopaa.Sb
