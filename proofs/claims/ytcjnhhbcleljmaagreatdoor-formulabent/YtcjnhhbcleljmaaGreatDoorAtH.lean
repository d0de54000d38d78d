/- What atoms.readPart answers. -/
import Derived.Test.YtcjnhhbcleljmaaGreatDoorAtD
import Derived.Test.YtcjnhhbcleljmaaGreatDoorAtE
namespace Go.Proofs.YtcjnhhbcleljmaaGreatDoor.Sb
open Go.RowKit
open V
open Ex (RowO LiesO flatO liesO_lit liesO_own)

theorem doing_at (a : Option Addr) (n c : Nat) (xs : List Tm) (p : Nat) (i : Int) (o : Option Int) (w : World) (hl : LiesT w a n c xs) (hi : Hid ((p : Int) = i)) (H : Hid (kOp (xs.map ktm) p = o)) :
    Calls Tryz.prog 223 #[.slice a n c, .int .i64 i] w fun e w' => e = .returned (opV o) ∧ w' = w := by
  rw [← unhide hi]
  refine doing_any a n c xs p (opV o) w hl (hide (congrArg opV ?_))
  rw [← unhide H]
  unfold opAt kOp
  rw [List.getElem?_map]
  cases xs[p]? <;> rfl
/-- What the reading of an expression answers. -/
def PtRes (B : Nat) (r : Rx) (e : Ending) (w : World) : Prop := match r with
  | .ok x => ∃ (a : Option Addr) (n c : Nat), e = .returned (.tuple #[.slice a n c, .int .i64 x.2.2, .int .i64 0]) ∧ w.ownsRow B 144 5 (.slice a n c) n (flatO x.1)
  | .error (some p) => e = .returned (.tuple #[.slice none 0 0, .int .i64 p, .int .i64 7])
  | .error none => ∃ i : Int, e = .returned (.tuple #[.slice none 0 0, .int .i64 i, .int .i64 2])
theorem PtRes.no {B : Nat} {r : Rx} {p : Nat} {i : Int} {w : World} (h : r = .error (some p)) (hi : i = p) : PtRes B r (.returned (.tuple #[.slice none 0 0, .int .i64 i, .int .i64 7])) w := by
  subst h hi; rfl
theorem PtRes.many {B : Nat} {r : Rx} {i : Int} {w : World} (h : r = .error none) : PtRes B r (.returned (.tuple #[.slice none 0 0, .int .i64 i, .int .i64 2])) w := by
  subst h; exact ⟨i, rfl⟩
theorem PtRes.ok {B : Nat} {r : Rx} {l : List Oo} {rest : List Kt} {q : Nat} {i : Int} {a : Option Addr} {n c : Nat} {w : World} (h : r = .ok (l, rest, q)) (hi : i = q) (hl : w.ownsRow B 144 5 (.slice a n c) n (flatO l)) : PtRes B r (.returned (.tuple #[.slice a n c, .int .i64 i, .int .i64 0])) w := by
  subst h hi; exact ⟨a, n, c, rfl, hl⟩
/-- Two lists and one step, side by side in a block. -/
theorem row_three (w : World) (a1 : Option Addr) (n1 c1 : Nat) (x1 : List Oo) (a2 : Option Addr) (n2 c2 : Nat) (y1 : List Oo) (k : Int) (h1 : LiesO w a1 n1 c1 x1) (h2 : LiesO w a2 n2 c2 y1) :
    RowLo ((w.alloc (.cells #[.int .i64 k, .string ⟨#[]⟩, .int .i64 0, .int .i64 0, .string ⟨#[]⟩] 144)).alloc (.cells #[.slice a1 n1 c1, .slice a2 n2 c2, .slice (some ⟨w.heap.size, 0, none⟩) 1 1] 81)) (w.heap.size + 1) [⟨a1, n1, c1, x1⟩, ⟨a2, n2, c2, y1⟩, ⟨some ⟨w.heap.size, 0, none⟩, 1, 1, [(k, ⟨#[]⟩, zeroV)]⟩] := by
  have hb : Below w.heap.size w ((w.alloc (.cells #[.int .i64 k, .string ⟨#[]⟩, .int .i64 0, .int .i64 0, .string ⟨#[]⟩] 144)).alloc (.cells #[.slice a1 n1 c1, .slice a2 n2 c2, .slice (some ⟨w.heap.size, 0, none⟩) 1 1] 81)) := ((Below.refl _ _).alloc (Nat.le_refl _) _).alloc (by simp) _
  have k1 := heap_alloc_new (w.alloc (.cells #[.int .i64 k, .string ⟨#[]⟩, .int .i64 0, .int .i64 0, .string ⟨#[]⟩] 144)) (.cells #[.slice a1 n1 c1, .slice a2 n2 c2, .slice (some ⟨w.heap.size, 0, none⟩) 1 1] 81)
  rw [show (w.alloc (.cells #[.int .i64 k, .string ⟨#[]⟩, .int .i64 0, .int .i64 0, .string ⟨#[]⟩] 144)).heap.size = w.heap.size + 1 by simp] at k1
  have k0 : ((w.alloc (.cells #[.int .i64 k, .string ⟨#[]⟩, .int .i64 0, .int .i64 0, .string ⟨#[]⟩] 144)).alloc (.cells #[.slice a1 n1 c1, .slice a2 n2 c2, .slice (some ⟨w.heap.size, 0, none⟩) 1 1] 81)).heap[w.heap.size]? = some (.cells (flatO [((k, ⟨#[]⟩, zeroV) : Oo)]).toArray 144) := (Lib.alloc_old _ _ _ (by simp)).trans (heap_alloc_new w _)
  refine ⟨by simp, fun i l hl => ?_⟩
  match i, hl with
  | 0, hl =>
    simp only [List.getElem?_cons_zero, Option.some.injEq] at hl
    subst hl
    exact ⟨by rw [Lib.cell_of_heap k1]; rfl, h1.on hb⟩
  | 1, hl =>
    simp only [List.getElem?_cons_succ, List.getElem?_cons_zero, Option.some.injEq] at hl
    subst hl
    exact ⟨by rw [Lib.cell_of_heap k1]; rfl, h2.on hb⟩
  | 2, hl =>
    simp only [List.getElem?_cons_succ, List.getElem?_cons_zero, Option.some.injEq] at hl
    subst hl
    exact ⟨by rw [Lib.cell_of_heap k1]; rfl, liesO_lit k0⟩
  | i + 3, hl => simp at hl
/-- What it answers, where m brackets more may open. -/
def PartC (a : Option Addr) (n c : Nat) (xs : List Tm) (m : Nat) : Prop :=
  ∀ (p op : Nat) (pi oi : Int) (r : Rx) (w : World), Env w → LiesT w a n c xs → p ≤ n → op + m = 15 → Hid ((p : Int) = pi) → Hid ((op : Int) = oi) → Hid (readX m ((xs.map ktm).drop p) p = r) →
    Calls Tryz.prog 193 #[.slice a n c, .int .i64 pi, .int .i64 oi] w fun e w' => PtRes w.heap.size r e w' ∧ Below w.heap.size w w'

set_option maxHeartbeats 4000000 in
set_option maxRecDepth 100000 in
theorem part_leaf (a : Option Addr) (n c : Nat) (xs : List Tm) (m p op : Nat) (r : Rx) (w : World) (he : Env w) (hl : LiesT w a n c xs) (HZ : Hid (∀ x ∈ xs, x.2.1.size ≤ 20000)) (hn2 : n ≤ 20000) (hp : p ≤ n) (H0 : Hid (isM xs p ⟨#[40]⟩ = false)) (H : Hid (readX m ((xs.map ktm).drop p) p = r)) :
    Calls Tryz.prog 193 #[.slice a n c, .int .i64 (p : Int), .int .i64 (op : Int)] w fun e w' => PtRes w.heap.size r e w' ∧ Below w.heap.size w w' := by
  obtain ⟨o, ho⟩ : ∃ o, kT (xs.map ktm) p = o := ⟨_, rfl⟩
  have HO := hide ho
  cases o with
  | none =>
    have HR : Hid (r = .error (some p)) := hide (by rw [← unhide H]; exact readX_at_none m (isM_f (unhide H0)) ho)
    clear ho H
    go_enter Tryz.func193, Tryz.ntmps193
    go_wp2_with fail
    refine (isMark_at a n c xs p _ _ false _ hl (hide rfl) H0).mono ?_
    rintro e w1 ⟨rfl, hw1⟩
    subst w1
    go_wp2_with fail
    refine (term_at a n c xs p _ none _ he hl (unhide HZ) (hide rfl) HO).mono ?_
    rintro e w2 ⟨rfl, hb2⟩
    rw [show termV none = .tuple #[.agg #[.string ⟨#[]⟩, .int .i64 0, .int .i64 0, .string ⟨#[]⟩], .bool false] from rfl]
    have hbw := hb2.alloc hb2.size (bxT (⟨#[]⟩, 0, 0, ⟨#[]⟩))
    clear hl he
    go_wp2_with fail
    refine bodyPost_ret (v := .tuple #[.slice none 0 0, .int .i64 p, .int .i64 7]) (by simp [results, Tryz.results193, go_sem]) rfl ?_
    exact ⟨PtRes.no (unhide HR) rfl, hbw⟩
  | some t =>
    have HR : Hid (r = .ok ([pushT t], (xs.map ktm).drop (p + 1), p + 1)) := hide (by rw [← unhide H]; exact readX_at_leaf m (isM_f (unhide H0)) ho)
    clear ho H
    go_enter Tryz.func193, Tryz.ntmps193
    go_wp2_with fail
    refine (isMark_at a n c xs p _ _ false _ hl (hide rfl) H0).mono ?_
    rintro e w1 ⟨rfl, hw1⟩
    subst w1
    go_wp2_with fail
    refine (term_at a n c xs p _ (some t) _ he hl (unhide HZ) (hide rfl) HO).mono ?_
    rintro e w2 ⟨rfl, hb2⟩
    rw [show termV (some t) = .tuple #[.agg #[.string t.1, .int .i64 t.2.1, .int .i64 t.2.2.1, .string t.2.2.2], .bool true] from rfl]
    have hbw := hb2.alloc hb2.size (bxT t)
    obtain ⟨t0, t1, t2, t3⟩ := quadT (heap_alloc_new w2 (bxT t))
    clear hl he
    obtain ⟨o, hoo⟩ : ∃ o, pushT t = o := ⟨_, rfl⟩
    have HP := hide hoo
    rw [hoo] at HR
    clear hoo
    go_wp2_with fail
    refine (push_any t o _ HP).mono ?_
    rintro e w3 ⟨rfl, hb3⟩
    have hbw3 := bt hbw hb3
    have hL := World.ownsRow_lit (base := w.heap.size) (e := 144) (size := 5) w3 (flatO [o]).toArray 1 hbw3.size (by decide) rfl
    have hbw4 := hbw3.alloc hbw3.size (.cells (flatO [o]).toArray 144)
    clear t0 t1 t2 t3 hb2 hb3 hbw hbw3
    go_wp2_with fail
    refine bodyPost_ret (v := .tuple #[.slice (some ⟨w3.heap.size, 0, none⟩) 1 1, .int .i64 ((p : Int) + 1), .int .i64 0]) (by simp [results, Tryz.results193, go_sem]) rfl ?_
    exact ⟨PtRes.ok (unhide HR) (by omega) hL, hbw4⟩

set_option maxHeartbeats 4000000 in
set_option maxRecDepth 100000 in
theorem part_zero (a : Option Addr) (n c : Nat) (xs : List Tm) (p : Nat) (r : Rx) (w : World) (hl : LiesT w a n c xs) (H0 : Hid (isM xs p ⟨#[40]⟩ = true)) (H : Hid (readX 0 ((xs.map ktm).drop p) p = r)) :
    Calls Tryz.prog 193 #[.slice a n c, .int .i64 (p : Int), .int .i64 15] w fun e w' => PtRes w.heap.size r e w' ∧ Below w.heap.size w w' := by
  have HR : Hid (r = .error none) := hide (by rw [← unhide H]; exact readX_at_zero (isM_t (unhide H0)))
  clear H
  go_enter Tryz.func193, Tryz.ntmps193
  go_wp2_with fail
  refine (isMark_at a n c xs p _ _ true _ hl (hide rfl) H0).mono ?_
  rintro e w1 ⟨rfl, hw1⟩
  subst w1
  clear hl
  go_wp2_with fail
  refine bodyPost_ret (v := .tuple #[.slice none 0 0, .int .i64 p, .int .i64 2]) (by simp [results, Tryz.results193, go_sem]) rfl ?_
  exact ⟨PtRes.many (unhide HR), Below.refl _ _⟩

set_option maxHeartbeats 4000000 in
set_option maxRecDepth 100000 in
theorem part_open (a : Option Addr) (n c : Nat) (xs : List Tm) (m p op : Nat) (r : Rx) (w : World) (IH : PartC a n c xs m) (he : Env w) (hl : LiesT w a n c xs) (hn2 : n ≤ 19999) (hop : op + (m + 1) = 15) (H0 : Hid (isM xs p ⟨#[40]⟩ = true)) (H : Hid (readX (m + 1) ((xs.map ktm).drop p) p = r)) :
    Calls Tryz.prog 193 #[.slice a n c, .int .i64 (p : Int), .int .i64 (op : Int)] w fun e w' => PtRes w.heap.size r e w' ∧ Below w.heap.size w w' := by
  have hi1 : Hid (((p + 1 : Nat) : Int) = (p : Int) + 1) := hide (by omega)
  have ho1 : Hid (((op + 1 : Nat) : Int) = (op : Int) + 1) := hide (by omega)
  have hpn : p < n := by
    have h2 := (List.getElem?_eq_some_iff.1 (isM_t (unhide H0))).1
    rw [List.length_map] at h2
    have := hl.len; omega
  have h15 : ¬ (op : Int) = 15 := by omega
  have hop' : op < 15 := by omega
  have hlen : ∃ N, N = (xs.map ktm).length ∧ N ≤ n := ⟨_, rfl, by rw [List.length_map]; have := hl.len; omega⟩
  obtain ⟨r1, hr1⟩ : ∃ r1, readX m ((xs.map ktm).drop (p + 1)) (p + 1) = r1 := ⟨_, rfl⟩
  have HR1 := hide hr1
  have HN : Hid (nextX (readX m) r1 = r) := hide (by rw [← hr1, ← unhide H]; exact (readX_at_open m (isM_t (unhide H0))).symm)
  have F1 := fun W he hl => IH (p + 1) (op + 1) _ _ r1 W he hl (by omega) (by omega) hi1 ho1 HR1
  have FH := hide F1
  clear F1 H
  rcases hrr : r1 with (e | ⟨x1, rest, q⟩)
  · subst hrr
    clear hr1 HR1
    have HR : Hid (r = .error e) := hide (by rw [← unhide HN]; rfl)
    clear HN
    go_enter Tryz.func193, Tryz.ntmps193
    go_wp2_with fail
    refine (isMark_at a n c xs p _ _ true _ hl (hide rfl) H0).mono ?_
    rintro e' w1 ⟨rfl, hw1⟩
    subst w1
    go_wp2_with fail
    refine (unhide FH _ he hl).mono ?_
    rintro e' w2 ⟨h, hb2⟩
    cases e with
    | none =>
      obtain ⟨i, rfl⟩ := h
      clear hl he
      go_wp2_with fail
      refine bodyPost_ret (v := .tuple #[.slice none 0 0, .int .i64 i, .int .i64 2]) (by simp [results, Tryz.results193, go_sem]) rfl ?_
      exact ⟨PtRes.many (unhide HR), hb2⟩
    | some p' =>
      have h' : e' = .returned (.tuple #[.slice none 0 0, .int .i64 p', .int .i64 7]) := h
      subst h'
      clear hl he h
      go_wp2_with fail
      refine bodyPost_ret (v := .tuple #[.slice none 0 0, .int .i64 p', .int .i64 7]) (by simp [results, Tryz.results193, go_sem]) rfl ?_
      exact ⟨PtRes.no (unhide HR) rfl, hb2⟩
  · subst hrr
    obtain ⟨g1, g2, g3, g4⟩ := readX_rest m hr1
    simp only at g1 g2 g3 g4
    subst g1
    obtain ⟨N, hN, hNn⟩ := hlen
    rw [← hN] at g3
    clear hr1 HR1
    have hiq1 : Hid (((q + 1 : Nat) : Int) = (q : Int) + 1) := hide (by omega)
    obtain ⟨o, ho⟩ : ∃ o, kOp (xs.map ktm) q = o := ⟨_, rfl⟩
    have HO := hide ho
    have hx1 : x1.length ≤ 20000 := by omega
    cases o with
    | none =>
      have HR : Hid (r = .error (some q)) := hide (by rw [← unhide HN]; exact nextX_at_none _ ho)
      clear HN ho hN
      go_enter Tryz.func193, Tryz.ntmps193
      go_wp2_with fail
      refine (isMark_at a n c xs p _ _ true _ hl (hide rfl) H0).mono ?_
      rintro e' w1 ⟨rfl, hw1⟩
      subst w1
      go_wp2_with fail
      refine (unhide FH _ he hl).mono ?_
      rintro e' w2 ⟨⟨a1, n1, c1, rfl, ho1⟩, hb2⟩
      have hl1 := liesO_own ho1
      clear ho1
      have hl2 := hl.on hb2
      clear hl he hl1
      go_wp2_with fail
      refine (doing_at a n c xs q _ none _ hl2 (hide rfl) HO).mono ?_
      rintro e' w3 ⟨rfl, hw3⟩
      subst w3
      rw [show opV none = .tuple #[.int .i64 0, .bool false] from rfl]
      clear hl2
      go_wp2_with fail
      refine bodyPost_ret (v := .tuple #[.slice none 0 0, .int .i64 q, .int .i64 7]) (by simp [results, Tryz.results193, go_sem]) rfl ?_
      exact ⟨PtRes.no (unhide HR) rfl, hb2⟩
    | some k =>
      obtain ⟨r2, hr2⟩ : ∃ r2, readX m ((xs.map ktm).drop (q + 1)) (q + 1) = r2 := ⟨_, rfl⟩
      have HR2 := hide hr2
      have HC : Hid (closeX x1 k r2 = r) := hide (by rw [← unhide HN, nextX_at_some _ ho, hr2])
      have hqn : q < n := by
        unfold kOp at ho
        cases hq : (xs.map ktm)[q]? with
        | none => rw [hq] at ho; cases ho
        | some t =>
          have h2 := (List.getElem?_eq_some_iff.1 hq).1
          rw [List.length_map] at h2
          have := hl.len; omega
      have F2 := hide (fun W he hl => IH (q + 1) (op + 1) _ _ r2 W he hl (by omega) (by omega) hiq1 ho1 HR2)
      clear HN ho
      rcases hrr : r2 with (e | ⟨y1, rest2, q2⟩)
      · subst hrr
        clear hr2 HR2 hN
        have HR : Hid (r = .error e) := hide (by rw [← unhide HC]; rfl)
        clear HC
        go_enter Tryz.func193, Tryz.ntmps193
        go_wp2_with fail
        refine (isMark_at a n c xs p _ _ true _ hl (hide rfl) H0).mono ?_
        rintro e' w1 ⟨rfl, hw1⟩
        subst w1
        go_wp2_with fail
        refine (unhide FH _ he hl).mono ?_
        rintro e' w2 ⟨⟨a1, n1, c1, rfl, ho1⟩, hb2⟩
        have hl1 := liesO_own ho1
        clear ho1
        have hl2 := hl.on hb2
        have he2 := he.on hb2
        clear hl he hl1
        go_wp2_with fail
        refine (doing_at a n c xs q _ (some k) _ hl2 (hide rfl) HO).mono ?_
        rintro e' w3 ⟨rfl, hw3⟩
        subst w3
        rw [show opV (some k) = .tuple #[.int .i64 k, .bool true] from rfl]
        go_wp2_with fail
        refine (unhide F2 _ he2 hl2).mono ?_
        rintro e' w4 ⟨h, hb4⟩
        have hbw := bt hb2 hb4
        clear hl2 he2
        cases e with
        | none =>
          obtain ⟨i, rfl⟩ := h
          go_wp2_with fail
          refine bodyPost_ret (v := .tuple #[.slice none 0 0, .int .i64 i, .int .i64 2]) (by simp [results, Tryz.results193, go_sem]) rfl ?_
          exact ⟨PtRes.many (unhide HR), hbw⟩
        | some p' =>
          have h' : e' = .returned (.tuple #[.slice none 0 0, .int .i64 p', .int .i64 7]) := h
          subst h'
          clear h
          go_wp2_with fail
          refine bodyPost_ret (v := .tuple #[.slice none 0 0, .int .i64 p', .int .i64 7]) (by simp [results, Tryz.results193, go_sem]) rfl ?_
          exact ⟨PtRes.no (unhide HR) rfl, hbw⟩
      · subst hrr
        obtain ⟨g1', g2', g3', g4'⟩ := readX_rest m hr2
        simp only at g1' g2' g3' g4'
        subst g1'
        rw [← hN] at g3'
        clear hr2 HR2 hN
        have hy1 : y1.length + x1.length ≤ 19999 := by omega
        obtain ⟨b1, hb1⟩ : ∃ b, isM xs q2 ⟨#[41]⟩ = b := ⟨_, rfl⟩
        have HB1 := hide hb1
        cases b1 with
        | false =>
          have HR : Hid (r = .error (some q2)) := hide (by rw [← unhide HC]; exact closeX_at_bad (isM_f hb1))
          clear HC hb1
          go_enter Tryz.func193, Tryz.ntmps193
          go_wp2_with fail
          refine (isMark_at a n c xs p _ _ true _ hl (hide rfl) H0).mono ?_
          rintro e' w1 ⟨rfl, hw1⟩
          subst w1
          go_wp2_with fail
          refine (unhide FH _ he hl).mono ?_
          rintro e' w2 ⟨⟨a1, n1, c1, rfl, ho1⟩, hb2⟩
          have hl1 := liesO_own ho1
          clear ho1
          have hl2 := hl.on hb2
          have he2 := he.on hb2
          clear hl he hl1
          go_wp2_with fail
          refine (doing_at a n c xs q _ (some k) _ hl2 (hide rfl) HO).mono ?_
          rintro e' w3 ⟨rfl, hw3⟩
          subst w3
          rw [show opV (some k) = .tuple #[.int .i64 k, .bool true] from rfl]
          go_wp2_with fail
          refine (unhide F2 _ he2 hl2).mono ?_
          rintro e' w4 ⟨⟨a2, n2, c2, rfl, ho4⟩, hb4⟩
          have hl4 := liesO_own ho4
          clear ho4
          have hbw := bt hb2 hb4
          have hl5 := hl2.on hb4
          clear hl2 he2 hl4
          go_wp2_with fail
          refine (isMark_at a n c xs q2 _ _ false _ hl5 (hide rfl) HB1).mono ?_
          rintro e' w5 ⟨rfl, hw5⟩
          subst w5
          clear hl5
          go_wp2_with fail
          refine bodyPost_ret (v := .tuple #[.slice none 0 0, .int .i64 q2, .int .i64 7]) (by simp [results, Tryz.results193, go_sem]) rfl ?_
          exact ⟨PtRes.no (unhide HR) rfl, hbw⟩
        | true =>
          have HR : Hid (r = .ok (x1 ++ y1 ++ [(k, ⟨#[]⟩, zeroV)], (xs.map ktm).drop (q2 + 1), q2 + 1)) := hide (by rw [← unhide HC]; exact closeX_at_ok (isM_t hb1))
          clear HC hb1
          go_enter Tryz.func193, Tryz.ntmps193
          go_wp2_with fail
          refine (isMark_at a n c xs p _ _ true _ hl (hide rfl) H0).mono ?_
          rintro e' w1 ⟨rfl, hw1⟩
          subst w1
          go_wp2_with fail
          refine (unhide FH _ he hl).mono ?_
          rintro e' w2 ⟨⟨a1, n1, c1, rfl, ho1⟩, hb2⟩
          have hl1 := liesO_own ho1
          clear ho1
          have hl2 := hl.on hb2
          have he2 := he.on hb2
          clear hl he
          go_wp2_with fail
          refine (doing_at a n c xs q _ (some k) _ hl2 (hide rfl) HO).mono ?_
          rintro e' w3 ⟨rfl, hw3⟩
          subst w3
          rw [show opV (some k) = .tuple #[.int .i64 k, .bool true] from rfl]
          go_wp2_with fail
          refine (unhide F2 _ he2 hl2).mono ?_
          rintro e' w4 ⟨⟨a2, n2, c2, rfl, ho4⟩, hb4⟩
          have hl4 := liesO_own ho4
          clear ho4
          have hbw := bt hb2 hb4
          have hl5 := hl2.on hb4
          have hl1' := hl1.on hb4
          clear hl2 he2 hl1
          go_wp2_with fail
          refine (isMark_at a n c xs q2 _ _ true _ hl5 (hide rfl) HB1).mono ?_
          rintro e' w5 ⟨rfl, hw5⟩
          subst w5
          clear hl5
          have hr := row_three w4 a1 n1 c1 x1 a2 n2 c2 y1 k hl1' hl4
          have hsum : n1 + n2 + 1 ≤ 20000 := by have := hl1'.len; have := hl4.len; omega
          have hbw5 := (hbw.alloc hbw.size (.cells #[.int .i64 k, .string ⟨#[]⟩, .int .i64 0, .int .i64 0, .string ⟨#[]⟩] 144)).alloc (by have := hbw.size; simp; omega) (.cells #[.slice a1 n1 c1, .slice a2 n2 c2, .slice (some ⟨w4.heap.size, 0, none⟩) 1 1] 81)
          have F := concat_any (w4.heap.size + 1) 3 _ _ hr (Nat.le_refl _) (Nat.le_refl _) (Nat.le_refl _) (by simpa [sumO, Nat.add_assoc] using hsum)
          have FC := hide F
          clear F hr hl1' hl4 hb2 hb4 hbw
          go_wp2_with fail
          refine (unhide FC).mono ?_
          rintro e' w6 ⟨a3, n3, c3, rfl, hown, hb6⟩
          have hL := own_mono hown hbw5.size
          rw [show allO [⟨a1, n1, c1, x1⟩, ⟨a2, n2, c2, y1⟩, ⟨some ⟨w4.heap.size, 0, none⟩, 1, 1, [(k, ⟨#[]⟩, zeroV)]⟩] = x1 ++ y1 ++ [(k, ⟨#[]⟩, zeroV)] from by simp [allO]] at hL
          have hbw6 := bt hbw5 hb6
          clear hown hb6 FC
          go_wp2_with fail
          refine bodyPost_ret (v := .tuple #[.slice a3 n3 c3, .int .i64 ((q2 : Int) + 1), .int .i64 0]) (by simp [results, Tryz.results193, go_sem]) rfl ?_
          exact ⟨PtRes.ok (unhide HR) (by omega) hL, hbw6⟩

/-- What readPart answers, whatever the place, however many brackets are open. -/
theorem readPart_any (a : Option Addr) (n c : Nat) (xs : List Tm) (HZ : Hid (∀ x ∈ xs, x.2.1.size ≤ 20000)) (hn2 : n ≤ 19999) : ∀ m, PartC a n c xs m := by
  intro m
  induction m with
  | zero =>
    intro p op pi oi r w he hl hp hop hpi hoi H
    rw [← unhide hpi, ← unhide hoi]
    obtain ⟨b, hb⟩ : ∃ b, isM xs p ⟨#[40]⟩ = b := ⟨_, rfl⟩
    cases b with
    | false => exact part_leaf a n c xs 0 p op r w he hl HZ (by omega) hp (hide hb) H
    | true =>
      have : op = 15 := by omega
      subst this
      exact part_zero a n c xs p r w hl (hide hb) H
  | succ m ih =>
    intro p op pi oi r w he hl hp hop hpi hoi H
    rw [← unhide hpi, ← unhide hoi]
    obtain ⟨b, hb⟩ : ∃ b, isM xs p ⟨#[40]⟩ = b := ⟨_, rfl⟩
    cases b with
    | false => exact part_leaf a n c xs (m + 1) p op r w he hl HZ (by omega) hp (hide hb) H
    | true => exact part_open a n c xs m p op r w ih he hl hn2 hop (hide hb) H
end Go.Proofs.YtcjnhhbcleljmaaGreatDoor.Sb
