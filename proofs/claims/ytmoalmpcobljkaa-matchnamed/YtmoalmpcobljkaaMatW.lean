/- What the laws' wakes answers: true. -/
import Derived.Test.YtmoalmpcobljkaaMatF
namespace Go.Proofs.Ytmoalmpcobljkaa.Sb
open Go.RowKit
open V

def v1 : Vv := (1, 1, ⟨#[]⟩)
def v2 : Vv := (1, 2, ⟨#[]⟩)
def nX : ByteArray := ⟨#[88]⟩
def nP : ByteArray := ⟨#[112]⟩
def tsX : List Bb := [(nX, zeroV), (nX, zeroV)]
/-- The same, without the place where the values lie. -/
def oneC (n : ByteArray) (ts : List Bb) (fn : ByteArray) (vs : List Vb) (l : List Bb) : List Bb × Bool :=
  if rightA n ts = true ∧ rightF (fn.data.toList, vs.map Vb.l) = true ∧ n = fn ∧ ts.length = vs.length ∧ listB l = true then finR ts (vs.map vv) l else ([], false)
theorem wk1 : oneC nP tsX nP [vb v1, vb v1] [] = ([(nX, v1)], true) := by decide
theorem wk2 : oneC nP tsX nP [vb v1, vb v2] [] = ([], false) := by decide
theorem wk3 : grR nP tsX [(nX, v1)] = (nP, [v1, v1], 0) := by decide
theorem wk4 : grR nP tsX [] = (⟨#[]⟩, [], 5) := by decide
theorem wk5 : (varsL tsX).length = 1 := by decide
theorem wk6 : chk (rightA ⟨#[]⟩ []) = 1 := by decide
theorem lt_all {l : List Bb} (h : l.all (fun x => decide (x.1.size ≤ 200) && decide (x.2.2.2.size ≤ 200)) = true) : ∀ x ∈ l, Lt x := by
  intro x hx
  have := (List.all_eq_true.1 h) x hx
  simpa [Lt] using this
theorem lies_of {w : World} {b : Nat} {xs : List Bb} {T : TypeId} (h : w.heap[b]? = some (.cells (flatB xs).toArray T)) : Lies w (some ⟨b, 0, none⟩) xs.length xs.length xs := by
  refine ⟨Or.inr ⟨b, 0, rfl, (Array.getElem?_eq_some_iff.1 h).1, fun i v hv => ?_⟩, rfl, (fun h => by cases h), Nat.le_refl _⟩
  obtain ⟨h0, h1, h2, h3⟩ := flatB_get xs i v hv
  rw [Lib.cell_of_heap h, Lib.cell_of_heap h, Lib.cell_of_heap h, Lib.cell_of_heap h]
  simpa using ⟨h0, h1, h2, h3⟩
/-- A fact of two values in a new block. -/
def fOf (b : Nat) (u v : Vv) : Fb := ⟨nP, some ⟨b, 0, none⟩, 2, 2, [vb u, vb v]⟩
theorem fOf_in {w : World} {b : Nat} {u v : Vv} (h : w.heap[b]? = some (.cells #[.int .i64 u.1, .int .i64 u.2.1, .string u.2.2, .int .i64 v.1, .int .i64 v.2.1, .string v.2.2] 40)) : (fOf b u v).In w :=
  ⟨rowV_of (vs := [vb u, vb v]) h, rfl⟩
theorem fOf_light (b : Nat) (u v : Vv) (hu : u.2.2.size ≤ 200) (hv : v.2.2.size ≤ 200) : (fOf b u v).Light :=
  ⟨show nP.size ≤ 200 by decide, show 2 ≤ 20 by decide, by
    intro x hx
    simp only [fOf, List.mem_cons, List.not_mem_nil, or_false] at hx
    rcases hx with rfl | rfl
    · exact hu
    · exact hv⟩

theorem four_of (w : World) (A B C D : Obj) : Below w.heap.size w ((((w.alloc A).alloc B).alloc C).alloc D) ∧ ((((w.alloc A).alloc B).alloc C).alloc D).heap[w.heap.size]? = some A ∧ ((((w.alloc A).alloc B).alloc C).alloc D).heap[w.heap.size + 1]? = some B ∧ ((((w.alloc A).alloc B).alloc C).alloc D).heap[w.heap.size + 1 + 1]? = some C ∧ ((((w.alloc A).alloc B).alloc C).alloc D).heap[w.heap.size + 1 + 1 + 1]? = some D ∧ ((((w.alloc A).alloc B).alloc C).alloc D).heap.size = w.heap.size + 1 + 1 + 1 + 1 := by
  have s1 : (w.alloc A).heap.size = w.heap.size + 1 := by simp
  have s2 : ((w.alloc A).alloc B).heap.size = w.heap.size + 1 + 1 := by simp
  have s3 : (((w.alloc A).alloc B).alloc C).heap.size = w.heap.size + 1 + 1 + 1 := by simp
  have h0 := heap_alloc_new w A
  have h1 := heap_alloc_new (w.alloc A) B
  have h2 := heap_alloc_new ((w.alloc A).alloc B) C
  have h3 := heap_alloc_new (((w.alloc A).alloc B).alloc C) D
  rw [s1] at h1
  rw [s2] at h2
  rw [s3] at h3
  refine ⟨((((Below.refl _ _).alloc (Nat.le_refl _) _).alloc (by omega) _).alloc (by omega) _).alloc (by omega) _, ?_, ?_, ?_, h3, by simp⟩
  · rw [Lib.alloc_old _ _ _ (by omega), Lib.alloc_old _ _ _ (by omega), Lib.alloc_old _ _ _ (by omega)]; exact h0
  · rw [Lib.alloc_old _ _ _ (by omega), Lib.alloc_old _ _ _ (by omega)]; exact h1
  · rw [Lib.alloc_old _ _ _ (by omega)]; exact h2
/-- What wakes has laid. -/
structure Wk (W : World) (b : Nat) : Prop where
  t : W.heap[b]? = some (.cells #[.string ⟨#[88]⟩, .int .i64 0, .int .i64 0, .string ⟨#[]⟩, .string ⟨#[88]⟩, .int .i64 0, .int .i64 0, .string ⟨#[]⟩] 47)
  a : W.heap[b + 1]? = some (.cells #[.string ⟨#[112]⟩, .slice (some ⟨b, 0, none⟩) 2 2] 24)
  u : W.heap[b + 1 + 1]? = some (.cells #[.int .i64 1, .int .i64 1, .string ⟨#[]⟩] 40)
  v : W.heap[b + 1 + 1 + 1]? = some (.cells #[.int .i64 1, .int .i64 2, .string ⟨#[]⟩] 40)
theorem heap_lt {W : World} {b : Nat} {o : Obj} (h : W.heap[b]? = some o) : b < W.heap.size := (Array.getElem?_eq_some_iff.1 h).1
theorem Wk.on {W w1 : World} {b : Nat} (T : Wk W b) (hb : Below W.heap.size W w1) : Wk w1 b :=
  ⟨(hb.block _ (heap_lt T.t)).trans T.t, (hb.block _ (heap_lt T.a)).trans T.a, (hb.block _ (heap_lt T.u)).trans T.u, (hb.block _ (heap_lt T.v)).trans T.v⟩
theorem Wk.row {W : World} {b : Nat} (T : Wk W b) : Lies W (some ⟨b, 0, none⟩) 2 2 tsX := lies_of (xs := tsX) T.t
theorem Wk.two {W : World} {b : Nat} (T : Wk W b) : W.cell? ⟨b + 1, 0, none⟩ = some (.string ⟨#[112]⟩) ∧ W.cell? ⟨b + 1, 1, none⟩ = some (.slice (some ⟨b, 0, none⟩) 2 2) := pair_of T.a
theorem Wk.one {W : World} {b : Nat} (T : Wk W b) : W.cell? ⟨b + 1 + 1, 0, none⟩ = some (.int .i64 1) ∧ W.cell? ⟨b + 1 + 1, 1, none⟩ = some (.int .i64 1) ∧ W.cell? ⟨b + 1 + 1, 2, none⟩ = some (.string ⟨#[]⟩) := trip_of (v := (1, 1, ⟨#[]⟩)) T.u
theorem Wk.tow {W : World} {b : Nat} (T : Wk W b) : W.cell? ⟨b + 1 + 1 + 1, 0, none⟩ = some (.int .i64 1) ∧ W.cell? ⟨b + 1 + 1 + 1, 1, none⟩ = some (.int .i64 2) ∧ W.cell? ⟨b + 1 + 1 + 1, 2, none⟩ = some (.string ⟨#[]⟩) := trip_of (v := (1, 2, ⟨#[]⟩)) T.v

theorem vars_k (n : ByteArray) (a : Option Addr) (len cap : Nat) (ts : List Bb) (m : Nat) (w : World) (hv : ∀ t ∈ ts, Lt t) (hA : Lies w a len cap ts) (h20 : len ≤ 20) (H : Hid ((varsL ts).length = m)) :
    Calls Try.prog 11 #[.agg #[.string n, .slice a len cap]] w fun e w' => ∃ (q : Option Addr) (c : Nat), e = .returned (.slice q m c) ∧ RowS w' q (varsL ts) ∧ Below w.heap.size w w' ∧ (∀ b o v, w.cell? ⟨b, o, none⟩ = some v → w'.cell? ⟨b, o, none⟩ = some v) := by
  refine (vars_any n a len cap ts w hv hA.row hA.le hA.ge h20).mono ?_
  rintro e w' ⟨q, m', c, rfl, h1, h2, h3⟩
  have : m' = m := h1.trans (unhide H)
  subst this
  exact ⟨q, c, rfl, h2, h3, fun b o v h => cell_on h3 h⟩
theorem acheck_k (n : ByteArray) (a : Option Addr) (len cap : Nat) (ts : List Bb) (r : Int) (w : World) (hn : n.size ≤ 200) (hv : ∀ t ∈ ts, Lt t) (hrow : Lies w a len cap ts) (h20 : len ≤ 20) (H : Hid (chk (rightA n ts) = r)) :
    Calls Try.prog 19 #[.agg #[.string n, .slice a len cap]] w fun e w' => e = .returned (.int .i64 r) ∧ Below w.heap.size w w' ∧ (∀ b o v, w.cell? ⟨b, o, none⟩ = some v → w'.cell? ⟨b, o, none⟩ = some v) := by
  refine (acheck_x n a len cap ts r w hn hv hrow h20 H).mono ?_
  rintro e w' ⟨rfl, h⟩
  exact ⟨rfl, h, fun b o v g => cell_on h g⟩

set_option maxHeartbeats 8000000 in
set_option maxRecDepth 100000 in
theorem wakes_any (w : World) : Calls Try.prog 9 #[] w fun e w' => e = .returned (.bool true) ∧ Below w.heap.size w w' := by
  obtain ⟨hb0, k0, k1, k2, k3, hsz⟩ := four_of w (.cells #[.string ⟨#[88]⟩, .int .i64 0, .int .i64 0, .string ⟨#[]⟩, .string ⟨#[88]⟩, .int .i64 0, .int .i64 0, .string ⟨#[]⟩] 47) (.cells #[.string ⟨#[112]⟩, .slice (some ⟨w.heap.size, 0, none⟩) 2 2] 24) (.cells #[.int .i64 1, .int .i64 1, .string ⟨#[]⟩] 40) (.cells #[.int .i64 1, .int .i64 2, .string ⟨#[]⟩] 40)
  have T : Wk _ w.heap.size := ⟨k0, k1, k2, k3⟩
  clear k0 k1 k2 k3
  go_enter Try.func9, Try.ntmps9
  go_wp2_with fail
  generalize (((w.alloc (.cells #[.string ⟨#[88]⟩, .int .i64 0, .int .i64 0, .string ⟨#[]⟩, .string ⟨#[88]⟩, .int .i64 0, .int .i64 0, .string ⟨#[]⟩] 47)).alloc (.cells #[.string ⟨#[112]⟩, .slice (some ⟨w.heap.size, 0, none⟩) 2 2] 24)).alloc (.cells #[.int .i64 1, .int .i64 1, .string ⟨#[]⟩] 40)).alloc (.cells #[.int .i64 1, .int .i64 2, .string ⟨#[]⟩] 40) = W at hb0 hsz T
  have n1 := heap_alloc_new W (.cells #[.int .i64 1, .int .i64 1, .string ⟨#[]⟩, .int .i64 1, .int .i64 1, .string ⟨#[]⟩] 40)
  rw [hsz] at n1
  have hbx : Below W.heap.size W (W.alloc (.cells #[.int .i64 1, .int .i64 1, .string ⟨#[]⟩, .int .i64 1, .int .i64 1, .string ⟨#[]⟩] 40)) := (Below.refl _ _).alloc (Nat.le_refl _) _
  refine (one_any nP (some ⟨w.heap.size, 0, none⟩) 2 2 tsX (fOf (w.heap.size + 1 + 1 + 1 + 1) v1 v1) none 0 0 [] [(nX, v1)] true _ (by decide) (lt_all (by decide)) (T.on hbx).row (by omega) (fOf_in (u := v1) (v := v1) n1) (fOf_light _ _ _ (by decide) (by decide)) (lies_none _) (by omega) (by intro x hx; cases hx) (hide wk1)).mono ?_
  rintro e w1 ⟨q1, m1, c1, rfl, hl1, hb1⟩
  obtain rfl : m1 = 1 := hl1.len
  have T1 := T.on (bt hbx hb1)
  have hw1 := bt (bt hb0 hbx) hb1
  clear T hbx hb1 hb0 n1 hsz
  obtain ⟨a0, a1⟩ := T1.two
  obtain ⟨u0, u1, u2⟩ := T1.one
  obtain ⟨y0, y1, y2⟩ := T1.tow
  go_wp2_with fail
  have n2 := heap_alloc_new w1 (.cells #[.int .i64 1, .int .i64 1, .string ⟨#[]⟩, .int .i64 1, .int .i64 2, .string ⟨#[]⟩] 40)
  have hbx : Below w1.heap.size w1 (w1.alloc (.cells #[.int .i64 1, .int .i64 1, .string ⟨#[]⟩, .int .i64 1, .int .i64 2, .string ⟨#[]⟩] 40)) := (Below.refl _ _).alloc (Nat.le_refl _) _
  refine (one_any nP (some ⟨w.heap.size, 0, none⟩) 2 2 tsX (fOf w1.heap.size v1 v2) none 0 0 [] [] false _ (by decide) (lt_all (by decide)) (T1.on hbx).row (by omega) (fOf_in (u := v1) (v := v2) n2) (fOf_light _ _ _ (by decide) (by decide)) (lies_none _) (by omega) (by intro x hx; cases hx) (hide wk2)).mono ?_
  rintro e w2 ⟨q2, m2, c2, rfl, hl2, hb2⟩
  have T2 := T1.on (bt hbx hb2)
  have hw2 := bt (bt hw1 hbx) hb2
  replace hl1 := hl1.on (bt hbx hb2)
  clear T1 hbx hb2 hw1 n2 a0 a1 u0 u1 u2 y0 y1 y2 hl2
  obtain ⟨a0, a1⟩ := T2.two
  go_wp2_with fail
  refine (ground_any nP (some ⟨w.heap.size, 0, none⟩) 2 2 tsX q1 1 c1 [(nX, v1)] ⟨#[112]⟩ [v1, v1] 0 w2 (by decide) (lt_all (by decide)) T2.row (by omega) hl1 (by omega) (lt_all (by decide)) (hide wk3)).mono ?_
  rintro e w3 ⟨q3, m3, c3, rfl, hr3, hm3, hb3⟩
  obtain rfl : m3 = 2 := hm3
  have hbx : Below w3.heap.size w3 (w3.alloc (.cells #[.string ⟨#[112]⟩, .slice q3 2 c3] 27)) := (Below.refl _ _).alloc (Nat.le_refl _) _
  have T3 := T2.on (bt hb3 hbx)
  have g3 := heap_alloc_new w3 (.cells #[.string ⟨#[112]⟩, .slice q3 2 c3] 27)
  have hw3 := bt (bt hw2 hb3) hbx
  have hr4 := hr3.on hbx
  have hsz : (w3.alloc (.cells #[.string ⟨#[112]⟩, .slice q3 2 c3] 27)).heap.size = w3.heap.size + 1 := by simp
  have T2' := T2.on hb3
  clear T2 hbx hb3 hw2 a0 a1 hl1 hr3
  obtain ⟨a0, a1⟩ := T2'.two
  have hlt := cell_lt a0
  go_wp2_with fail
  clear a0 a1 hlt T2'
  generalize w3.alloc (.cells #[.string ⟨#[112]⟩, .slice q3 2 c3] 27) = W3 at T3 g3 hw3 hr4 hsz
  refine (ground_any nP (some ⟨w.heap.size, 0, none⟩) 2 2 tsX none 0 0 [] ⟨#[]⟩ [] 5 W3 (by decide) (lt_all (by decide)) T3.row (by omega) (lies_none _) (by omega) (by intro x hx; cases hx) (hide wk4)).mono ?_
  rintro e w4 ⟨q4, m4, c4, rfl, hr5, rfl, hb4⟩
  have hbx : Below w4.heap.size w4 (w4.alloc (.cells #[.string ⟨#[]⟩, .slice q4 0 c4] 27)) := (Below.refl _ _).alloc (Nat.le_refl _) _
  have T4 := T3.on (bt hb4 hbx)
  have g4 := ((bt hb4 hbx).block _ (heap_lt g3)).trans g3
  have hw4 := bt (bt hw3 hb4) hbx
  replace hr4 := hr4.on (bt hb4 hbx)
  clear T3 g3 hw3 hb4 hbx hsz hr5
  go_wp2_with fail
  generalize w4.alloc (.cells #[.string ⟨#[]⟩, .slice q4 0 c4] 27) = W4 at T4 g4 hw4 hr4
  obtain ⟨b, o, hq, hbl, x0, x1, x2⟩ := hr4.up (i := 1) (by simp)
  subst hq
  have z0 : W4.cell? ⟨b, o + 3, none⟩ = some (.int .i64 1) := x0
  have z1 : W4.cell? ⟨b, o + 3 + 1, none⟩ = some (.int .i64 1) := x1
  have z2 : W4.cell? ⟨b, o + 3 + 2, none⟩ = some (.string ⟨#[]⟩) := x2
  clear x0 x1 x2
  obtain ⟨a0, a1⟩ := T4.two
  obtain ⟨u0, u1, u2⟩ := T4.one
  obtain ⟨_, g1⟩ := pair_of g4
  have hrow := lies_drew T4.row
  have hE := eqV0 v1 v1
  simp only [v1, decide_true] at hE
  clear hr4 g4 T4 hbl
  go_region_held3 (fun w' => w'.cell? ⟨b, o + 3, none⟩ = some (.int .i64 1) ∧ w'.cell? ⟨b, o + 3 + 1, none⟩ = some (.int .i64 1) ∧ w'.cell? ⟨b, o + 3 + 2, none⟩ = some (.string ⟨#[]⟩) ∧ w'.cell? ⟨w.heap.size + 1, 0, none⟩ = some (.string ⟨#[112]⟩) ∧ w'.cell? ⟨w.heap.size + 1, 1, none⟩ = some (.slice (some ⟨w.heap.size, 0, none⟩) 2 2) ∧ w'.cell? ⟨w.heap.size + 1 + 1, 0, none⟩ = some (.int .i64 1) ∧ w'.cell? ⟨w.heap.size + 1 + 1, 1, none⟩ = some (.int .i64 1) ∧ w'.cell? ⟨w.heap.size + 1 + 1, 2, none⟩ = some (.string ⟨#[]⟩) ∧ w'.cell? ⟨w3.heap.size, 1, none⟩ = some (.slice (some ⟨b, o, none⟩) 2 c3)) (go_keep) (first
    | (go_at_call 11; refine (vars_k _ _ 2 2 tsX 1 _ (lt_all (by decide)) hrow (by omega) (hide wk5)).mono ?_; rintro e w5 ⟨q5, c5, rfl, _, hb5, hk5⟩)
    | (go_at_call 19; refine (acheck_k ⟨#[]⟩ none 0 0 [] 1 _ (by decide) (by intro x hx; cases hx) (lies_none _) (by omega) (hide wk6)).mono ?_; rintro e w6 ⟨rfl, hb6, hk6⟩))
  have hw6 : Below w.heap.size w w6 := bt (bt hw4.drew hb5) hb6
  clear hb5 hb6 hk5 hk6 hE hrow z0 z1 z2 a0 a1 u0 u1 u2 g1
  go_wp2_with fail
  go_ret
  exact ⟨rfl, hw6⟩
end Go.Proofs.Ytmoalmpcobljkaa.Sb
