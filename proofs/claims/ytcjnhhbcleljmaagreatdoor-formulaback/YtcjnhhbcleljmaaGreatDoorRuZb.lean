/- Joined: RuP RuQ RuR. -/
import Derived.Test.YtcjnhhbcleljmaaGreatDoorRuZa
import Derived.Test.YtcjnhhbcleljmaaGreatDoorBasD
namespace Go.Proofs.YtcjnhhbcleljmaaGreatDoor.Sb
open Go.RowKit
open V
open Ex (RowO LiesO flatO liesO_own)

theorem all_upto {es : List Ez} {k : Nat} (hk : k < es.length) (h : ∀ j (_ : j < es.length), j < k → exprB es[j].xs = true) (hx : exprB es[k].xs = true) : ∀ j (_ : j < es.length), j < k + 1 → exprB es[j].xs = true := fun j hj h' => by
  by_cases e : j = k
  · subst e; exact hx
  · exact h j hj (by omega)
set_option maxHeartbeats 4000000 in
set_option maxRecDepth 20000 in
theorem args_any (a : Option Addr) (m mc : Nat) (es : List Ez) (w : World) (hA : LiesE w a m mc es) (hL : ∀ e ∈ es, e.Light) :
    Calls Tryz.prog 123 #[.slice a m mc] w fun e w' => e = .returned (.bool (decide (es.length ≤ 5) && es.all (fun e => exprB e.xs))) ∧ Below w.heap.size w w' := by
  have hle := hA.le
  have hge := hA.ge
  by_cases h5 : 5 < m
  · have d5 : decide (5 < (m : Int)) = true := by simp; omega
    rw [decide_eq_false (show ¬ es.length ≤ 5 by omega), Bool.false_and]
    clear hA hle hge h5
    go_enter Tryz.func123, Tryz.ntmps123
    go_wp2_with fail
    go_ret
    exact ⟨rfl, Below.refl _ _⟩
  · have d5 : decide (5 < (m : Int)) = false := by simp; omega
    rw [decide_eq_true (show es.length ≤ 5 by omega), Bool.true_and]
    go_enter Tryz.func123, Tryz.ntmps123
    go_wp2_with fail
    go_loopw [10] (fun i wr => ∃ k : Nat, k ≤ m ∧ i = .int .i64 k ∧ Hid (∀ j (_ : j < es.length), j < k → exprB es[j].xs = true) ∧ Below w.heap.size w wr) (fun i _ => m - (intOf i).toNat)
    case atStart => exact ⟨0, Nat.zero_le _, rfl, hide (fun j _ h => by omega), Below.refl _ _⟩
    case round =>
      obtain ⟨k, hk, rfl, HU, hbw⟩ := hrel
      have hB := hA.on hbw
      by_cases hlt : k < m
      · have hk' : k < es.length := by omega
        obtain ⟨b, o, ha, hbl, c0⟩ := hB.row.up hk'
        have hx := hB.all _ (List.getElem_mem hk')
        have hxL := hL _ (List.getElem_mem hk')
        have HX := hide (all_upto hk' (unhide HU))
        have HN : Hid (exprB es[k].xs = false → (es.all fun e => exprB e.xs) = false) := hide (fun h => by
          rw [Bool.eq_false_iff]
          intro hc
          have := List.all_eq_true.1 hc _ (List.getElem_mem hk')
          rw [h] at this; cases this)
        subst ha
        clear hB HU
        generalize es[k] = y at c0 hx hxL HX HN
        obtain ⟨q, hq⟩ : ∃ q, exprB y.xs = q := ⟨_, rfl⟩
        have F := echeck_any y.a y.l y.c y.xs wr (LiesO.row hx) (LiesO.le hx) (LiesO.ge hx) hxL.x (by have := hxL.l; omega)
        rw [hq] at F
        cases q with
        | false =>
          have HQ := hide (unhide HN hq)
          clear hq HX HN hx hxL hA
          go_wp2_with fail
          refine F.mono ?_
          rintro e w1 ⟨rfl, hb1⟩
          clear F
          rw [show chk false = 1 from rfl]
          go_wp2_with fail
          go_ret
          exact ⟨ret_bool' (unhide HQ).symm, bt hbw hb1⟩
        | true =>
          have HY := hide (unhide HX hq)
          clear hq HX HN hx hxL
          go_wp2_with fail
          refine F.mono ?_
          rintro e w1 ⟨rfl, hb1⟩
          clear F
          rw [show chk true = 0 from rfl]
          have hbw1 := bt hbw hb1
          clear hbw hb1 c0
          go_wp2_with fail
          go_roundw
          case rel => exact ⟨k + 1, by omega, by go_num, HY, hbw1⟩
          case measure => simp [intOf]; omega
      · have HQ : Hid ((es.all fun e => exprB e.xs) = true) := hide (by
          rw [List.all_eq_true]
          intro x hx
          obtain ⟨j, hj, rfl⟩ := List.getElem_of_mem hx
          exact unhide HU j hj (by omega))
        clear HU hB hA
        go_wp2_with fail
        go_ret
        exact ⟨ret_bool' (unhide HQ).symm, hbw⟩

/-- Not too long to be looked at; of how many expressions nothing is said. -/
structure Az.Soft (z : Az) : Prop where
  n : z.n.size ≤ 200
  e : ∀ e ∈ z.es, e.Light
set_option maxHeartbeats 4000000 in
set_option maxRecDepth 20000 in
theorem act_q (z : Az) (N : Nat) (q : Bool) (w : World) (hz : z.In w) (hL : z.Soft) (H : Hid (rightAct N z.pl = q)) :
    Calls Tryz.prog 66 #[.agg #[.int .i64 z.k, .string z.n, .slice z.a z.m z.mc, .int .i64 z.wh], .int .i64 (N : Int)] w fun e w' => e = .returned (.bool q) ∧ Below w.heap.size w w' := by
  have hb0 := below_new w (bxZ z)
  have Z0 := bz_of (heap_alloc_new w (bxZ z))
  have hz0 := Az.In.on hz hb0
  have hme := LiesE.le hz
  have hmg := LiesE.ge hz
  by_cases hk1 : z.k = 1
  · rw [act1 hk1] at H
    have d1 : (z.k == 1) = true := by simp [hk1]
    clear hk1 hz
    obtain ⟨p, hp⟩ : ∃ p, nameB z.n.data.toList = p := ⟨_, rfl⟩
    have F := fun W => name_any z.n W (by have := hL.n; unfold maxLen; omega)
    rw [hp] at F H
    obtain ⟨x0, x1, x2, x3⟩ := Z0
    go_enter Tryz.func66, Tryz.ntmps66
    go_wp2_with fail
    refine (F _).mono ?_
    rintro e w2 ⟨rfl, hb2⟩
    have Z2 := (BZ.mk (z := z) x0 x1 x2 x3).on hb2
    have hz2 := Az.In.on hz0 hb2
    have hw2 := bt hb0 hb2
    clear F x0 x1 x2 x3 hz0 hb2 hb0 hp
    obtain ⟨x0, x1, x2, x3⟩ := Z2
    cases p with
    | false =>
      have HQ := hide (show false = q by rw [← unhide H]; rfl)
      clear H x0 x1 x2 x3 hz2
      go_wp2_with fail
      go_ret
      exact ⟨ret_bool' (unhide HQ), hw2⟩
    | true =>
      by_cases h0 : z.wh = 0
      case neg =>
        have d0 : (z.wh == 0) = false := by simp [h0]
        have HQ := hide (show false = q by rw [← unhide H, decide_eq_false h0]; simp)
        clear h0 H x0 x1 x2 hz2
        go_wp2_with fail
        go_ret
        exact ⟨ret_bool' (unhide HQ), hw2⟩
      have d0 : (z.wh == 0) = true := by simp [h0]
      have HQ := hide (show (decide (z.es.length ≤ 5) && z.es.all (fun e => exprB e.xs)) = q by rw [← unhide H, decide_eq_true h0]; simp)
      have F := args_any z.a z.m z.mc z.es w2 hz2 hL.e
      rw [unhide HQ] at F
      clear h0 H hz2 HQ hL
      go_wp2_with fail
      refine F.mono ?_
      rintro e w3 ⟨rfl, hb3⟩
      clear F
      go_wp2_with fail
      go_ret
      exact ⟨rfl, bt hw2 hb3⟩
  · have d1 : (z.k == 1) = false := by simp [hk1]
    by_cases hk2 : z.k = 2
    case neg =>
      have d2 : (z.k == 2) = false := by simp [hk2]
      have HQ := hide (show false = q by rw [← unhide H, act0 hk1 hk2])
      obtain ⟨x0, x1, x2, x3⟩ := Z0
      clear H hk1 hk2 hz hz0 hL
      go_enter Tryz.func66, Tryz.ntmps66
      go_wp2_with fail
      go_ret
      exact ⟨ret_bool' (unhide HQ), hb0⟩
    rw [act2 hk2] at H
    have d2 : (z.k == 2) = true := by simp [hk2]
    obtain ⟨x0, x1, x2, x3⟩ := Z0
    clear hz hz0 hL hk1 hk2
    by_cases hn : z.n.size = 0
    case neg =>
      have HQ := hide (show false = q by rw [← unhide H, decide_eq_false (fun h => hn h.1)]; rfl)
      have d3 : (z.n.toList == []) = false := by
        rw [beq_eq_false_iff_ne]; intro e
        rw [ByteArray.toList_eq] at e
        exact hn (bytes_nil.1 e)
      clear H hn
      go_enter Tryz.func66, Tryz.ntmps66
      go_wp2_with fail
      go_ret
      exact ⟨ret_bool' (unhide HQ), hb0⟩
    have d3 : (z.n.toList == []) = true := by
      rw [beq_iff_eq, ByteArray.toList_eq]
      exact bytes_nil.2 hn
    by_cases hm : z.m = 0
    case neg =>
      have HQ := hide (show false = q by rw [← unhide H, decide_eq_false (fun h => hm (by omega))]; rfl)
      have d4 : ((z.m : Int) == 0) = false := by simp; omega
      clear H hn hm
      go_enter Tryz.func66, Tryz.ntmps66
      go_wp2_with fail
      go_ret
      exact ⟨ret_bool' (unhide HQ), hb0⟩
    have d4 : ((z.m : Int) == 0) = true := by simp; omega
    rw [decide_eq_true (show z.n.size = 0 ∧ z.es.length = 0 from ⟨hn, by omega⟩), Bool.true_and] at H
    clear hn hm
    by_cases h0 : 0 ≤ z.wh
    case neg =>
      have HQ := hide (show false = q by rw [← unhide H, decide_eq_false (fun h => h0 h.1)])
      have d5 : decide (0 ≤ z.wh) = false := decide_eq_false h0
      clear H h0
      go_enter Tryz.func66, Tryz.ntmps66
      go_wp2_with fail
      go_ret
      exact ⟨ret_bool' (unhide HQ), hb0⟩
    have d5 : decide (0 ≤ z.wh) = true := decide_eq_true h0
    have HQ := hide (show decide (z.wh < (N : Int)) = q by
      rw [← unhide H]
      congr 1
      rw [eq_iff_iff]
      omega)
    clear H h0
    go_enter Tryz.func66, Tryz.ntmps66
    go_wp2_with fail
    go_ret
    exact ⟨ret_bool' (unhide HQ), hb0⟩

theorem nil_two {a b : Nat} {q : Bool} (h : decide (a + b = 0) = q) : (((a : Int) == 0) && ((b : Int) == 0)) = q := by
  rw [← h]
  by_cases h0 : a + b = 0
  · have h1 : a = 0 := by omega
    have h2 : b = 0 := by omega
    subst h1; subst h2; rfl
  · rw [decide_eq_false h0]
    by_cases h1 : a = 0
    · have h2 : ((b : Int) == 0) = false := by simp; omega
      rw [h2, Bool.and_false]
    · have h2 : ((a : Int) == 0) = false := by simp; omega
      rw [h2, Bool.false_and]
set_option maxHeartbeats 4000000 in
set_option maxRecDepth 20000 in
theorem condP_q (c : Cd) (q : Bool) (w : World) (hc : c.In w) (hL : c.Light) (H : Hid (rightC' c.pl = q)) :
    Calls Tryz.prog 65 #[.agg #[.int .i64 c.k, .string c.n, .slice c.a c.m c.mc, .int .i64 c.h, .slice c.la c.ll c.lc, .slice c.ra c.rl c.rc]] w fun e w' => e = .returned (.bool q) ∧ Below w.heap.size w w' := by
  have hb0 := below_new w (bxC c)
  have T0 := bc_of (heap_alloc_new w (bxC c))
  have hc0 := hc.on hb0
  have hm : c.m = c.ts.length := by have := hc.t.len; omega
  have hl : c.ll = c.xs.length := by have := hc.x.le; have := hc.x.ge; omega
  have hr : c.rl = c.ys.length := by have := hc.y.le; have := hc.y.ge; omega
  by_cases hk : c.k = 1 ∨ c.k = 2
  · rw [right_has hk, ← hl, ← hr] at H
    have F := fun W (hA : Lies W c.a c.m c.mc c.ts) => acheck_any c.n c.a c.m c.mc c.ts W hL.n hL.t hA.row hA.le hA.ge (by have := hL.m; omega)
    obtain ⟨p, hp⟩ : ∃ p, rightA c.n c.ts = p := ⟨_, rfl⟩
    rw [hp] at F H
    clear hp hm hl hr hL hc
    have d1 : ((c.k == 1) || (c.k == 2)) = true := by simpa using hk
    obtain ⟨c0, c1, c2, c3, c4, c5⟩ := T0
    have key : ∀ (w2 : World), Below (w.alloc (bxC c)).heap.size (w.alloc (bxC c)) w2 → True := fun _ _ => trivial
    clear key
    rcases hk with hk | hk
    · have e1 : (c.k == 1) = true := by simp [hk]
      clear d1 hk
      go_enter Tryz.func65, Tryz.ntmps65
      go_wp2_with fail
      refine (F _ hc0.t).mono ?_
      rintro e w2 ⟨rfl, hb2⟩
      have T2 := (BC.mk (c := c) c0 c1 c2 c3 c4 c5).on hb2
      have hw2 := bt hb0 hb2
      clear F hc0 hb0 hb2 c0 c1 c2 c3 c4 c5
      cases p with
      | false =>
        have HQ := hide (show false = q by rw [← unhide H]; rfl)
        rw [show chk false = 1 from rfl]
        clear T2 H
        go_wp2_with fail
        go_ret
        exact ⟨ret_bool' (unhide HQ), hw2⟩
      | true =>
        rw [show chk true = 0 from rfl]
        obtain ⟨c0, c1, c2, c3, c4, c5⟩ := T2
        by_cases hh : c.h = 0
        case neg =>
          have d3 : (c.h == 0) = false := by simp [hh]
          have HQ := hide (show false = q by rw [← unhide H, decide_eq_false hh]; rfl)
          clear hh H
          go_wp2_with fail
          go_ret
          exact ⟨ret_bool' (unhide HQ), hw2⟩
        have d3 : (c.h == 0) = true := by simp [hh]
        have HQ := hide (nil_two (show decide (c.ll + c.rl = 0) = q by rw [← unhide H, decide_eq_true hh]; rfl))
        clear hh H
        by_cases h4 : c.ll = 0
        · have d4 : ((c.ll : Int) == 0) = true := by simp [h4]
          rw [d4, Bool.true_and] at HQ
          clear h4
          go_wp2_with fail
          go_ret
          exact ⟨ret_bool' (unhide HQ), hw2⟩
        · have d4 : ((c.ll : Int) == 0) = false := by simp [h4]
          rw [d4, Bool.false_and] at HQ
          clear h4
          go_wp2_with fail
          go_ret
          exact ⟨ret_bool' (unhide HQ), hw2⟩
    · have e1 : (c.k == 1) = false := by simp [hk]
      have e2 : (c.k == 2) = true := by simp [hk]
      clear d1 hk
      go_enter Tryz.func65, Tryz.ntmps65
      go_wp2_with fail
      refine (F _ hc0.t).mono ?_
      rintro e w2 ⟨rfl, hb2⟩
      have T2 := (BC.mk (c := c) c0 c1 c2 c3 c4 c5).on hb2
      have hw2 := bt hb0 hb2
      clear F hc0 hb0 hb2 c0 c1 c2 c3 c4 c5
      cases p with
      | false =>
        have HQ := hide (show false = q by rw [← unhide H]; rfl)
        rw [show chk false = 1 from rfl]
        clear T2 H
        go_wp2_with fail
        go_ret
        exact ⟨ret_bool' (unhide HQ), hw2⟩
      | true =>
        rw [show chk true = 0 from rfl]
        obtain ⟨c0, c1, c2, c3, c4, c5⟩ := T2
        by_cases hh : c.h = 0
        case neg =>
          have d3 : (c.h == 0) = false := by simp [hh]
          have HQ := hide (show false = q by rw [← unhide H, decide_eq_false hh]; rfl)
          clear hh H
          go_wp2_with fail
          go_ret
          exact ⟨ret_bool' (unhide HQ), hw2⟩
        have d3 : (c.h == 0) = true := by simp [hh]
        have HQ := hide (nil_two (show decide (c.ll + c.rl = 0) = q by rw [← unhide H, decide_eq_true hh]; rfl))
        clear hh H
        by_cases h4 : c.ll = 0
        · have d4 : ((c.ll : Int) == 0) = true := by simp [h4]
          rw [d4, Bool.true_and] at HQ
          clear h4
          go_wp2_with fail
          go_ret
          exact ⟨ret_bool' (unhide HQ), hw2⟩
        · have d4 : ((c.ll : Int) == 0) = false := by simp [h4]
          rw [d4, Bool.false_and] at HQ
          clear h4
          go_wp2_with fail
          go_ret
          exact ⟨ret_bool' (unhide HQ), hw2⟩
  · rw [right_guard hk hm] at H
    have d1 : (c.k == 1) = false := by simp; omega
    have d2 : (c.k == 2) = false := by simp; omega
    obtain ⟨r, hr'⟩ : ∃ r, chk (guardB c.k c.n c.m c.h c.xs c.ys) = r := ⟨_, rfl⟩
    have F := fun W hA => gcheck_any c r W hA hL (hide hr')
    have HQ := hide (show (r == 0) = q by rw [← unhide H, ← hr']; cases guardB c.k c.n c.m c.h c.xs c.ys <;> rfl)
    clear hk H hm hl hr hc hL hr'
    obtain ⟨c0, c1, c2, c3, c4, c5⟩ := T0
    go_enter Tryz.func65, Tryz.ntmps65
    go_wp2_with fail
    refine (F _ hc0).mono ?_
    rintro e w2 ⟨rfl, hb2⟩
    have hw2 := bt hb0 hb2
    clear F hc0 hb0 hb2 c0 c1 c2 c3 c4 c5
    go_wp2_with fail
    go_ret
    exact ⟨ret_bool' (unhide HQ), hw2⟩
end Go.Proofs.YtcjnhhbcleljmaaGreatDoor.Sb
namespace Go.Proofs.YtcjnhhbcleljmaaGreatDoor.Sb
open Go.RowKit
open V
open Ex (RowO LiesO flatO liesO_own)

/-- What is asked of a rule ahead of its conditions and acts. -/
structure HeadR (r : Rz) : Prop where
  n : nameB r.n.data.toList = true
  p0 : -1000 ≤ r.p
  p1 : r.p ≤ 1000
  c0 : 1 ≤ r.cs.length
  c1 : r.cs.length ≤ 6
  k : ∀ h : 0 < r.cs.length, (r.cs[0]'h).k = 1
  a0 : 1 ≤ r.zs.length
  a1 : r.zs.length ≤ 6
theorem head_of {r : Rz} (h : rightR r.pl = true) : HeadR r := by
  obtain ⟨h1, h2, h3, h4, h5, _⟩ := right_iff.1 h
  simp only [Rz.pl, List.length_map] at h1 h2 h3 h4 h5
  refine ⟨h1, h2.1, h2.2, h3.1, h3.2, fun hk => ?_, h5.1, h5.2⟩
  rw [List.head?_map, List.head?_map, List.head?_eq_getElem?, List.getElem?_eq_getElem hk] at h4
  exact Option.some.inj h4
theorem not_head {r : Rz} (h : HeadR r → False) : Hid (false = true ↔ HeadR r) := hide ⟨fun e => (by cases e), fun e => (h e).elim⟩
set_option maxHeartbeats 4000000 in
set_option maxRecDepth 20000 in
theorem head_q (r : Rz) (w : World) (hr : r.In w) (hn : r.n.size ≤ 200) :
    Calls Tryz.prog 64 #[.agg #[.string r.n, .int .i64 r.p, .slice r.ca r.cl r.cc, .slice r.aa r.al r.ac]] w fun e w' => (∃ q, e = .returned (.bool q) ∧ Hid (q = true ↔ HeadR r)) ∧ Below w.heap.size w w' := by
  have hb0 := below_new w (bxR r)
  have T0 : BR _ _ r := br_of (heap_alloc_new w (bxR r))
  have hr0 := hr.on hb0
  have hcl : r.cl = r.cs.length := by have := hr.c.le; have := hr.c.ge; omega
  have hal : r.al = r.zs.length := by have := hr.a.le; have := hr.a.ge; omega
  clear hr
  have HCL := hide hcl
  have HAL := hide hal
  obtain ⟨p1, hp1⟩ : ∃ p, nameB r.n.data.toList = p := ⟨_, rfl⟩
  have F1 := fun W => name_any r.n W (by unfold maxLen; omega)
  rw [hp1] at F1
  clear hcl hal
  obtain ⟨c0, c1, c2, c3⟩ := T0
  go_enter Tryz.func64, Tryz.ntmps64
  go_wp2_with fail
  refine (F1 _).mono ?_
  rintro e w2 ⟨rfl, hb2⟩
  have hw2 := bt hb0 hb2
  have T2 := (BR.mk (r := r) c0 c1 c2 c3).on hb2
  have hr2 := hr0.on hb2
  clear F1 c0 c1 c2 c3 hr0 hb0 hb2
  obtain ⟨c0, c1, c2, c3⟩ := T2
  cases p1 with
  | false =>
    have HP := hide hp1
    clear c0 c1 c2 c3 hr2 hp1
    go_wp2_with fail
    go_ret
    exact ⟨⟨_, rfl, not_head (fun h => by rw [h.n] at HP; exact absurd (unhide HP) (by decide))⟩, hw2⟩
  | true =>
  have H1 := hide hp1
  clear hp1
  by_cases h2 : -1000 ≤ r.p
  case neg =>
    have d : decide (-1000 ≤ r.p) = false := decide_eq_false h2
    have H2 := hide h2
    clear h2 c0 c2 c3 hr2
    go_wp2_with fail
    go_ret
    exact ⟨⟨_, rfl, not_head (fun h => by have := unhide H2; have := h.p0; omega)⟩, hw2⟩
  have d2 : decide (-1000 ≤ r.p) = true := decide_eq_true h2
  have H2 := hide h2
  clear h2
  by_cases h3 : r.p ≤ 1000
  case neg =>
    have d : decide (r.p ≤ 1000) = false := decide_eq_false h3
    have H3 := hide h3
    clear h3 c0 c2 c3 hr2
    go_wp2_with fail
    go_ret
    exact ⟨⟨_, rfl, not_head (fun h => by have := unhide H3; have := h.p1; omega)⟩, hw2⟩
  have d3 : decide (r.p ≤ 1000) = true := decide_eq_true h3
  have H3 := hide h3
  clear h3
  by_cases h4 : 1 ≤ r.cl
  case neg =>
    have d : decide (1 ≤ (r.cl : Int)) = false := decide_eq_false (by omega)
    have H4 := hide h4
    clear h4 c0 c3 hr2
    go_wp2_with fail
    go_ret
    exact ⟨⟨_, rfl, not_head (fun h => by have := unhide H4; have := h.c0; have := unhide HCL; omega)⟩, hw2⟩
  have d4 : decide (1 ≤ (r.cl : Int)) = true := decide_eq_true (by omega)
  by_cases h5 : r.cl ≤ 6
  case neg =>
    have d : decide ((r.cl : Int) ≤ 6) = false := decide_eq_false (by omega)
    have H5 := hide h5
    clear h4 h5 c0 c3 hr2
    go_wp2_with fail
    go_ret
    exact ⟨⟨_, rfl, not_head (fun h => by have := unhide H5; have := h.c1; have := unhide HCL; omega)⟩, hw2⟩
  have d5 : decide ((r.cl : Int) ≤ 6) = true := decide_eq_true (by omega)
  have hk0 : 0 < r.cs.length := by have := unhide HCL; omega
  obtain ⟨b, o, ha, hbl, e0, -, -, -, -, -⟩ := hr2.c.row.up hk0
  rw [Nat.zero_mul, Nat.add_zero] at e0
  rw [ha] at c2
  have hlt0 : 0 < r.cl := by omega
  have H4 := hide h4
  have H5 := hide h5
  clear h4 h5
  by_cases h6 : (r.cs[0]'hk0).k = 1
  case neg =>
    have H6 := hide (show HeadR r → False from fun h => h6 (h.k hk0))
    have d : ((r.cs[0]'hk0).k == 1) = false := by simp [h6]
    clear h6 c0 c3 hr2
    generalize (r.cs[0]'hk0).k = x at e0 d
    clear hk0
    go_wp2_with fail
    go_ret
    exact ⟨⟨_, rfl, not_head (unhide H6)⟩, hw2⟩
  have d6 : ((r.cs[0]'hk0).k == 1) = true := by simp [h6]
  have H6 := hide h6
  generalize (r.cs[0]'hk0).k = x at e0 d6
  clear h6 hr2
  by_cases h7 : 1 ≤ r.al
  case neg =>
    have d : decide (1 ≤ (r.al : Int)) = false := decide_eq_false (by omega)
    have H7 := hide h7
    clear h7 c0
    go_wp2_with fail
    go_ret
    exact ⟨⟨_, rfl, not_head (fun h => by have := unhide H7; have := h.a0; have := unhide HAL; omega)⟩, hw2⟩
  have d7 : decide (1 ≤ (r.al : Int)) = true := decide_eq_true (by omega)
  by_cases h8 : r.al ≤ 6
  case neg =>
    have d : decide ((r.al : Int) ≤ 6) = false := decide_eq_false (by omega)
    have H8 := hide h8
    clear h8 c0
    go_wp2_with fail
    go_ret
    exact ⟨⟨_, rfl, not_head (fun h => by have := unhide H8; have := h.a1; have := unhide HAL; omega)⟩, hw2⟩
  have d8 : decide ((r.al : Int) ≤ 6) = true := decide_eq_true (by omega)
  have HR : Hid (HeadR r) := hide ⟨unhide H1, unhide H2, unhide H3, by have := unhide H4; have := unhide HCL; omega, by have := unhide H5; have := unhide HCL; omega, fun _ => unhide H6, by have := unhide HAL; omega, by have := unhide HAL; omega⟩
  clear h7 h8 c0
  go_wp2_with fail
  go_ret
  exact ⟨⟨_, rfl, hide ⟨fun _ => unhide HR, fun _ => rfl⟩⟩, hw2⟩
end Go.Proofs.YtcjnhhbcleljmaaGreatDoor.Sb
namespace Go.Proofs.YtcjnhhbcleljmaaGreatDoor.Sb
open Go.RowKit
open V
open Ex (RowO LiesO flatO liesO_own)

/-- Not too long to be looked at. -/
structure Rz.Soft (r : Rz) : Prop where
  n : r.n.size ≤ 200
  cs : ∀ c ∈ r.cs, c.Light
  zs : ∀ z ∈ r.zs, z.Soft
theorem Rz.Light.soft {r : Rz} (h : r.Light) : r.Soft := ⟨h.n, h.cs, fun z hz => ⟨(h.zs z hz).n, (h.zs z hz).e⟩⟩
theorem not_right {r : Rz} (h : HeadR r → False) : rightR r.pl = false := rno (fun e => h (head_of e))
theorem is_right {r : Rz} (h : HeadR r) (hc : ∀ j (_ : j < r.cs.length), rightC' r.cs[j].pl = true) (ha : ∀ j (_ : j < r.zs.length), rightAct (hasN (r.cs.map Cd.pl)) r.zs[j].pl = true) : rightR r.pl = true := by
  refine right_iff.2 ⟨h.n, ⟨h.p0, h.p1⟩, ⟨by simpa [Rz.pl] using h.c0, by simpa [Rz.pl] using h.c1⟩, ?_, ⟨by simpa [Rz.pl] using h.a0, by simpa [Rz.pl] using h.a1⟩, ?_, ?_⟩
  · have hk : 0 < r.cs.length := h.c0
    show ((r.cs.map Cd.pl).map Prod.fst).head? = some 1
    rw [List.head?_map, List.head?_map, List.head?_eq_getElem?, List.getElem?_eq_getElem hk]
    exact congrArg some (h.k hk)
  · intro c hc'
    obtain ⟨d, hd, rfl⟩ := List.mem_map.1 hc'
    obtain ⟨j, hj, rfl⟩ := List.getElem_of_mem hd
    exact hc j hj
  · intro a ha'
    obtain ⟨d, hd, rfl⟩ := List.mem_map.1 ha'
    obtain ⟨j, hj, rfl⟩ := List.getElem_of_mem hd
    exact ha j hj
set_option maxHeartbeats 8000000 in
set_option maxRecDepth 20000 in
theorem check_any (r : Rz) (w : World) (hr : r.In w) (hL : r.Soft) :
    Calls Tryz.prog 18 #[.agg #[.string r.n, .int .i64 r.p, .slice r.ca r.cl r.cc, .slice r.aa r.al r.ac]] w fun e w' => e = .returned (.int .i64 (chk (rightR r.pl))) ∧ Below w.heap.size w w' := by
  obtain ⟨rn, rp, ca, cl, cc, cs, aa, al, ac, zs⟩ := r
  show Calls Tryz.prog 18 #[.agg #[.string rn, .int .i64 rp, .slice ca cl cc, .slice aa al ac]] w _
  have hb0 := below_new w (bxR (⟨rn, rp, ca, cl, cc, cs, aa, al, ac, zs⟩ : Rz))
  have T0 : BR (w.alloc (bxR (⟨rn, rp, ca, cl, cc, cs, aa, al, ac, zs⟩ : Rz))) w.heap.size (⟨rn, rp, ca, cl, cc, cs, aa, al, ac, zs⟩ : Rz) := br_of (heap_alloc_new w _)
  have hr0 := hr.on hb0
  have hcl : cl = cs.length := by have := hr.c.le; have := hr.c.ge; simp only at *; omega
  have hal : al = zs.length := by have := hr.a.le; have := hr.a.ge; simp only at *; omega
  clear hr
  have F1 := fun W hr => head_q ⟨rn, rp, ca, cl, cc, cs, aa, al, ac, zs⟩ W hr hL.n
  have HCL := hide hcl
  have HAL := hide hal
  clear hcl hal
  obtain ⟨c0, c1, c2, c3⟩ := T0
  go_enter Tryz.func18, Tryz.ntmps18
  go_wp2_with fail
  refine (F1 _ hr0).mono ?_
  rintro e w2 ⟨⟨q, rfl, HQ⟩, hb2⟩
  have hw2 := bt hb0 hb2
  have T2 := (BR.mk (r := ⟨rn, rp, ca, cl, cc, cs, aa, al, ac, zs⟩) c0 c1 c2 c3).on hb2
  have hr2 := hr0.on hb2
  clear F1 c0 c1 c2 c3 hr0 hb0 hb2
  cases q with
  | false =>
    have HR := hide (not_right (fun h => by have := (unhide HQ).2 h; cases this))
    clear T2 hr2 HQ
    go_wp2_with fail
    go_ret
    exact ⟨by rw [unhide HR]; rfl, hw2⟩
  | true =>
  have HH := hide ((unhide HQ).1 rfl)
  clear HQ
  obtain ⟨c0, c1, c2, c3⟩ := T2
  go_wp2_with fail
  have T2 := BR.mk (r := ⟨rn, rp, ca, cl, cc, cs, aa, al, ac, zs⟩) c0 c1 c2 c3
  clear c0 c1 c2 c3
  have hLc := hL.cs
  have hLz := hL.zs
  clear hL
  have h6 : cl ≤ 6 := by have := (unhide HH).c1; have := unhide HCL; simp only at *; omega
  go_loopw [3, 14] (fun f i wr => ∃ k : Nat, k ≤ cl ∧ i = .int .i64 k ∧ f = .int .i64 (hasN ((cs.map Cd.pl).take k)) ∧ Hid (∀ j (_ : j < cs.length), j < k → rightC' cs[j].pl = true) ∧ Below w2.heap.size w2 wr) (fun _ i _ => cl - (intOf i).toNat)
  case atStart => exact ⟨0, Nat.zero_le _, rfl, by simp [hasN], hide (fun j _ h => by omega), Below.refl _ _⟩
  case round =>
    obtain ⟨k, hk, rfl, rfl, HJ, hbw⟩ := hrel
    have hr3 := hr2.on hbw
    obtain ⟨c0, c1, c2, c3⟩ := T2.on hbw
    by_cases hlt : k < cl
    · have hk' : k < cs.length := by have := unhide HCL; omega
      obtain ⟨b, o, ha, hbl, e0, e1, e2, e3, e4, e5⟩ := hr3.c.row.up hk'
      have hx := hr3.c.all _ (List.getElem_mem hk')
      have hxL := hLc _ (List.getElem_mem hk')
      have HX : Hid (rightC' cs[k].pl = true → ∀ j (_ : j < cs.length), j < k + 1 → rightC' cs[j].pl = true) := hide (fun h j hj h' => by
        by_cases e : j = k
        · subst e; exact h
        · exact unhide HJ j hj (by omega))
      have HN : Hid (rightC' cs[k].pl = false → rightR (Rz.mk rn rp ca cl cc cs aa al ac zs).pl = false) := hide (fun h => no_cond hk' h)
      have hs := hasN_take (cs := cs.map Cd.pl) (k := k) (by simpa using hk')
      rw [show ((cs.map Cd.pl)[k]'(by simpa using hk')).1 = cs[k].k by simp [Cd.pl]] at hs
      have hbn : hasN ((cs.map Cd.pl).take k) ≤ 6 := Nat.le_trans (hasN_le _) (by simp; omega)
      have HS := hide hs
      have hw3 := bt hw2 hbw
      have ha' : ca = some ⟨b, o, none⟩ := ha
      subst ha'
      clear hr3 HJ ha c0 c1 c3 hs
      generalize cs[k] = c at e0 e1 e2 e3 e4 e5 hx hxL HX HN HS
      generalize hasN ((cs.map Cd.pl).take k) = m at hbn HS ⊢
      obtain ⟨q, hq⟩ : ∃ q, rightC' c.pl = q := ⟨_, rfl⟩
      have F := fun W hA => condP_q c q W hA hxL (hide hq)
      have hby := below_new wr (bxC c)
      have C0 := bc_of (heap_alloc_new wr (bxC c))
      have hx0 := hx.on hby
      obtain ⟨x0, x1, x2, x3, x4, x5⟩ := C0
      go_wp2_with fail
      refine (F _ hx0).mono ?_
      rintro e w4 ⟨rfl, hb4⟩
      have C4 := (BC.mk (c := c) x0 x1 x2 x3 x4 x5).on hb4
      clear F c2 e0 e1 e2 e3 e4 e5 hx hxL hx0 x0 x1 x2 x3 x4 x5
      cases q with
      | false =>
        have HQ := hide ((unhide HN) hq)
        clear hq C4
        go_wp2_with fail
        go_ret
        exact ⟨by rw [unhide HQ]; rfl, bt (bt hw3 hby) hb4⟩
      | true =>
        have HY := hide ((unhide HX) hq)
        have hbw4 := bt (bt hbw hby) hb4
        obtain ⟨x0, -, -, -, -, -⟩ := C4
        clear hq HX HN hbw hb4 hby
        by_cases h1 : c.k = 1
        · have d1 : (c.k == 1) = true := by simp [h1]
          have HS' := hide (show hasN ((cs.map Cd.pl).take (k + 1)) = m + 1 by rw [unhide HS, if_pos h1])
          clear h1 HS
          go_wp2_with fail
          go_roundw
          case rel => exact ⟨k + 1, by omega, by go_num, by rw [unhide HS']; go_num, HY, hbw4⟩
          case measure => simp [intOf]; omega
        · have d1 : (c.k == 1) = false := by simp [h1]
          have HS' := hide (show hasN ((cs.map Cd.pl).take (k + 1)) = m by rw [unhide HS, if_neg h1]; omega)
          clear h1 HS
          go_wp2_with fail
          go_roundw
          case rel => exact ⟨k + 1, by omega, by go_num, by rw [unhide HS'], HY, hbw4⟩
          case measure => simp [intOf]; omega
    · have hkn : (cs.map Cd.pl).take k = cs.map Cd.pl := List.take_of_length_le (by have := unhide HCL; simp; omega)
      rw [hkn]
      have HCS : Hid (∀ j (_ : j < cs.length), rightC' cs[j].pl = true) := hide (fun j hj => unhide HJ j hj (by have := unhide HCL; omega))
      have T3 := BR.mk (r := ⟨rn, rp, ca, cl, cc, cs, aa, al, ac, zs⟩) c0 c1 c2 c3
      have hw3 := bt hw2 hbw
      have hN6 : hasN (cs.map Cd.pl) ≤ 6 := Nat.le_trans (hasN_le _) (by have := unhide HCL; simp; omega)
      clear HJ hLc hr2 T2 hbw hw2 hkn
      obtain ⟨N, hN⟩ : ∃ N, hasN (cs.map Cd.pl) = N := ⟨_, rfl⟩
      have HNN := hide hN
      rw [hN] at hN6 ⊢
      clear hN
      have h6a : al ≤ 6 := by have := (unhide HH).a1; have := unhide HAL; simp only at *; omega
      go_wp2_with fail
      clear c0 c1 c2 c3 hlt hk
      go_loopw [30] (fun i wx => ∃ k : Nat, k ≤ al ∧ i = .int .i64 k ∧ Hid (∀ j (_ : j < zs.length), j < k → rightAct N zs[j].pl = true) ∧ Below wr.heap.size wr wx) (fun i _ => al - (intOf i).toNat)
      case atStart => exact ⟨0, Nat.zero_le _, rfl, hide (fun j _ h => by omega), Below.refl _ _⟩
      case round =>
        obtain ⟨k, hk, rfl, HJ, hbx⟩ := hrel
        have hr4 := hr3.on hbx
        obtain ⟨c0, c1, c2, c3⟩ := T3.on hbx
        have hw4 := bt hw3 hbx
        by_cases hlt : k < al
        · have hk' : k < zs.length := by have := unhide HAL; omega
          obtain ⟨b, o, ha, hbl, e0, e1, e2, e3⟩ := hr4.a.row.up hk'
          have hx := hr4.a.all _ (List.getElem_mem hk')
          have hxL := hLz _ (List.getElem_mem hk')
          have HX : Hid (rightAct N zs[k].pl = true → ∀ j (_ : j < zs.length), j < k + 1 → rightAct N zs[j].pl = true) := hide (fun h j hj h' => by
            by_cases e : j = k
            · subst e; exact h
            · exact unhide HJ j hj (by omega))
          have HN : Hid (rightAct N zs[k].pl = false → rightR (Rz.mk rn rp ca cl cc cs aa al ac zs).pl = false) := hide (fun h => no_act hk' (by rw [unhide HNN]; exact h))
          have ha' : aa = some ⟨b, o, none⟩ := ha
          subst ha'
          clear HJ ha HCS c0 c1 c2 hr4
          generalize zs[k] = z at e0 e1 e2 e3 hx hxL HX HN
          obtain ⟨q, hq⟩ : ∃ q, rightAct N z.pl = q := ⟨_, rfl⟩
          have F := fun W hA => act_q z N q W hA hxL (hide hq)
          have hby := below_new wr (bxZ z)
          have hx0 := Az.In.on hx hby
          go_wp2_with fail
          refine (F _ hx0).mono ?_
          rintro e w5 ⟨rfl, hb5⟩
          clear F c3 e0 e1 e2 e3 hx hxL hx0
          cases q with
          | false =>
            have HQ := hide ((unhide HN) hq)
            clear hq
            go_wp2_with fail
            go_ret
            exact ⟨by rw [unhide HQ]; rfl, bt (bt hw4 hby) hb5⟩
          | true =>
            have HY := hide ((unhide HX) hq)
            have hbx5 := bt (bt hbx hby) hb5
            clear hq HX HN hbx hb5 hby
            go_wp2_with fail
            go_roundw
            case rel => exact ⟨k + 1, by omega, by go_num, HY, hbx5⟩
            case measure => simp [intOf]; omega
        · have HQ := hide (is_right (unhide HH) (unhide HCS) (fun j hj => by rw [unhide HNN]; exact unhide HJ j hj (by have := unhide HAL; have hj' : j < zs.length := hj; omega)))
          clear c0 c1 c2 c3 hr4 HJ HCS
          go_wp2_with fail
          go_ret
          exact ⟨by rw [unhide HQ]; rfl, hw4⟩
end Go.Proofs.YtcjnhhbcleljmaaGreatDoor.Sb
