/- Joined: RuF RuG RuH RuI RuJ RuK. -/
import Derived.Test.YtcjnhhbcleljmaaGreatDoorRuZa
import Derived.Test.YtcjnhhbcleljmaaGreatDoorBasE
import Derived.Deep.DeepCutAuto
import Derived.Maps.AppendAt
import Derived.Handy
import Derived.Deep.RegionLaw
import Derived.Deep.RegionHeld3
namespace Go.Proofs.YtcjnhhbcleljmaaGreatDoor.Sb
open Go.RowKit
open V
open Ex (RowO LiesO flatO liesO_own)

theorem pl_iff {c d : Cd} : c.pl = d.pl ↔ c.k = d.k ∧ (c.n = d.n ∧ c.ts = d.ts) ∧ c.h = d.h ∧ c.xs = d.xs ∧ c.ys = d.ys := by
  unfold Cd.pl
  simp only [Prod.mk.injEq]
  constructor
  · rintro ⟨h1, ⟨h2, h3⟩, h4, h5, h6⟩
    exact ⟨h1, ⟨ByteArray.ext (Array.toList_inj.1 h2), h3⟩, h4, h5, h6⟩
  · rintro ⟨h1, ⟨h2, h3⟩, h4, h5, h6⟩
    exact ⟨h1, ⟨by rw [h2], h3⟩, h4, h5, h6⟩
theorem bool_of (P : Prop) : ∃ q : Bool, (q = true ↔ P) := by
  by_cases h : P
  · exact ⟨true, by simp [h]⟩
  · exact ⟨false, by simp [h]⟩
theorem iff_no {q : Bool} {P : Prop} (h : q = true ↔ P) (hn : ¬ P) : false = q := by
  cases q with
  | false => rfl
  | true => exact absurd (h.1 rfl) hn
theorem iff_yes {q : Bool} {P : Prop} (h : q = true ↔ P) (hp : P) : true = q := (h.2 hp).symm
/-- Two conditions' boxes. -/
structure C2 (W : World) (b : Nat) (c d : Cd) : Prop where
  x : BC W b c
  y : BC W (b + 1) d
theorem C2.on {W w1 : World} {b : Nat} {c d : Cd} (T : C2 W b c d) (hb : Below W.heap.size W w1) : C2 w1 b c d := ⟨T.x.on hb, T.y.on hb⟩

set_option maxHeartbeats 4000000 in
set_option maxRecDepth 20000 in
theorem keepCond_q (c d : Cd) (q : Bool) (w : World) (hc : c.In w) (hd : d.In w) (hm : c.m ≤ 1000) (hl : c.ll ≤ 20000) (hr : c.rl ≤ 20000) (HQ : Hid (q = true ↔ c.pl = d.pl)) :
    Calls Tryz.prog 113 #[.agg #[.int .i64 c.k, .string c.n, .slice c.a c.m c.mc, .int .i64 c.h, .slice c.la c.ll c.lc, .slice c.ra c.rl c.rc], .agg #[.int .i64 d.k, .string d.n, .slice d.a d.m d.mc, .int .i64 d.h, .slice d.la d.ll d.lc, .slice d.ra d.rl d.rc]] w fun e w' => e = .returned (.bool q) ∧ Below w.heap.size w w' := by
  obtain ⟨T0, S0, hw0⟩ := c2_of w c d
  have hc0 := hc.on hw0
  have hd0 := hd.on hw0
  have P : C2 _ _ c d := ⟨T0, S0⟩
  clear hc hd T0 S0
  have no : (¬ (c.k = d.k ∧ (c.n = d.n ∧ c.ts = d.ts) ∧ c.h = d.h ∧ c.xs = d.xs ∧ c.ys = d.ys)) → false = q := fun h => iff_no (unhide HQ) (fun e => h (pl_iff.1 e))
  have NO := hide no
  clear no
  obtain ⟨⟨c0, c1, c2, c3, c4, c5⟩, ⟨d0, d1, d2, d3, d4, d5⟩⟩ := P
  by_cases h1 : c.k = d.k
  case neg =>
    have e1 : (c.k == d.k) = false := by simp [h1]
    have HR := hide (unhide NO (fun h => h1 h.1))
    clear h1
    go_enter Tryz.func113, Tryz.ntmps113
    go_wp2_with fail
    go_ret
    exact ⟨ret_bool' (unhide HR), hw0⟩
  have e1 : (c.k == d.k) = true := by simp [h1]
  have H1 := hide h1
  clear h1
  obtain ⟨p, hp⟩ : ∃ p, decide (c.n = d.n ∧ c.ts = d.ts) = p := ⟨_, rfl⟩
  have F := fun W hA hB => keepAtom_any c.n d.n c.a d.a c.m d.m c.mc d.mc c.ts d.ts W hA hB hm
  rw [hp] at F
  go_enter Tryz.func113, Tryz.ntmps113
  go_wp2_with fail
  refine (F _ hc0.t hd0.t).mono ?_
  rintro e w1 ⟨rfl, hb1⟩
  have P := (C2.mk (c := c) (d := d) ⟨c0, c1, c2, c3, c4, c5⟩ ⟨d0, d1, d2, d3, d4, d5⟩).on hb1
  have hc1 := hc0.on hb1
  have hd1 := hd0.on hb1
  have hw1 := bt hw0 hb1
  clear F hc0 hd0 hw0 hb1 c0 c1 c2 c3 c4 c5 d0 d1 d2 d3 d4 d5 e1
  cases p with
  | false =>
    have HR := hide (unhide NO (fun h => of_decide_eq_false hp h.2.1))
    clear hp
    go_wp2_with fail
    go_ret
    exact ⟨ret_bool' (unhide HR), hw1⟩
  | true =>
  have H2 := hide (of_decide_eq_true hp)
  clear hp
  obtain ⟨⟨c0, c1, c2, c3, c4, c5⟩, ⟨d0, d1, d2, d3, d4, d5⟩⟩ := P
  by_cases h1 : c.h = d.h
  case neg =>
    have e1 : (c.h == d.h) = false := by simp [h1]
    have HR := hide (unhide NO (fun h => h1 h.2.2.1))
    clear h1
    go_wp2_with fail
    go_ret
    exact ⟨ret_bool' (unhide HR), hw1⟩
  have e1 : (c.h == d.h) = true := by simp [h1]
  have H3 := hide h1
  clear h1
  obtain ⟨p, hp⟩ : ∃ p, decide (c.xs = d.xs) = p := ⟨_, rfl⟩
  have F := fun (W : World) (hA : LiesO W c.la c.ll c.lc c.xs) (hB : LiesO W d.la d.ll d.lc d.xs) => keepOps_any c.la d.la c.ll d.ll c.lc d.lc c.xs d.xs W (LiesO.row hA) (LiesO.row hB) (LiesO.le hA) (LiesO.ge hA) (LiesO.le hB) (LiesO.ge hB) hl
  rw [hp] at F
  go_wp2_with fail
  refine (F _ hc1.x hd1.x).mono ?_
  rintro e w2 ⟨rfl, hb2⟩
  have P := (C2.mk (c := c) (d := d) ⟨c0, c1, c2, c3, c4, c5⟩ ⟨d0, d1, d2, d3, d4, d5⟩).on hb2
  have hc2 := hc1.on hb2
  have hd2 := hd1.on hb2
  have hw2 := bt hw1 hb2
  clear F hc1 hd1 hw1 hb2 c0 c1 c2 c3 c4 c5 d0 d1 d2 d3 d4 d5 e1
  cases p with
  | false =>
    have HR := hide (unhide NO (fun h => of_decide_eq_false hp h.2.2.2.1))
    clear hp
    go_wp2_with fail
    go_ret
    exact ⟨ret_bool' (unhide HR), hw2⟩
  | true =>
  have H4 := hide (of_decide_eq_true hp)
  clear hp
  obtain ⟨⟨c0, c1, c2, c3, c4, c5⟩, ⟨d0, d1, d2, d3, d4, d5⟩⟩ := P
  obtain ⟨p, hp⟩ : ∃ p, decide (c.ys = d.ys) = p := ⟨_, rfl⟩
  have F := fun (W : World) (hA : LiesO W c.ra c.rl c.rc c.ys) (hB : LiesO W d.ra d.rl d.rc d.ys) => keepOps_any c.ra d.ra c.rl d.rl c.rc d.rc c.ys d.ys W (LiesO.row hA) (LiesO.row hB) (LiesO.le hA) (LiesO.ge hA) (LiesO.le hB) (LiesO.ge hB) hr
  rw [hp] at F
  have HR : Hid (p = q) := hide (by
    rw [← hp]
    by_cases h : c.ys = d.ys
    · rw [decide_eq_true h]; exact iff_yes (unhide HQ) (pl_iff.2 ⟨unhide H1, unhide H2, unhide H3, unhide H4, h⟩)
    · rw [decide_eq_false h]; exact iff_no (unhide HQ) (fun e => h (pl_iff.1 e).2.2.2.2))
  clear hp
  go_wp2_with fail
  refine (F _ hc2.y hd2.y).mono ?_
  rintro e w3 ⟨rfl, hb3⟩
  have hw3 := bt hw2 hb3
  clear F hc2 hd2 hw2 hb3 c0 c1 c2 c3 c4 c5 d0 d1 d2 d3 d4 d5
  go_wp2_with fail
  go_ret
  exact ⟨ret_bool' (unhide HR), hw3⟩

set_option maxHeartbeats 4000000 in
set_option maxRecDepth 20000 in
theorem keepConds_q (a a' : Option Addr) (n n' cap cap' : Nat) (cs ds : List Cd) (q : Bool) (w : World) (hA : LiesC w a n cap cs) (hB : LiesC w a' n' cap' ds) (h1k : n ≤ 1000) (hm : ∀ c ∈ cs, c.m ≤ 1000 ∧ c.ll ≤ 20000 ∧ c.rl ≤ 20000) (HQ : Hid (q = true ↔ cs.map Cd.pl = ds.map Cd.pl)) :
    Calls Tryz.prog 58 #[.slice a n cap, .slice a' n' cap'] w fun e w' => e = .returned (.bool q) ∧ Below w.heap.size w w' := by
  have hle := hA.le
  have hge := hA.ge
  have hle' := hB.le
  have hge' := hB.ge
  by_cases hn : n = n'
  case neg =>
    have e1 : ((n : Int) != n') = true := by simp; omega
    have HR := hide (show false = q from iff_no (unhide HQ) (fun e => hn (by have := congrArg List.length e; simp at this; omega)))
    clear hle hge hle' hge' hn
    go_enter Tryz.func58, Tryz.ntmps58
    go_wp2_with fail
    go_ret
    exact ⟨ret_bool' (unhide HR), Below.refl _ _⟩
  subst hn
  have e1 : ((n : Int) != n) = false := by simp
  go_enter Tryz.func58, Tryz.ntmps58
  go_wp2_with fail
  clear e1
  go_loopw [5] (fun i wr => ∃ k : Nat, k ≤ n ∧ i = .int .i64 k ∧ Hid (∀ j (h1 : j < cs.length) (h2 : j < ds.length), j < k → cs[j].pl = ds[j].pl) ∧ Below w.heap.size w wr) (fun i _ => n - (intOf i).toNat)
  case atStart => exact ⟨0, Nat.zero_le _, rfl, hide (fun j _ _ h => by omega), Below.refl _ _⟩
  case round =>
    obtain ⟨k, hk, rfl, HJ, hbw⟩ := hrel
    have hA1 := hA.on hbw
    have hB1 := hB.on hbw
    by_cases hlt : k < n
    · have hk1 : k < cs.length := by omega
      have hk2 : k < ds.length := by omega
      obtain ⟨b, o, ha, hbl, c0, c1, c2, c3, c4, c5⟩ := hA1.row.up hk1
      obtain ⟨b', o', ha', hbl', d0, d1, d2, d3, d4, d5⟩ := hB1.row.up hk2
      have hx := hA1.all _ (List.getElem_mem hk1)
      have hy := hB1.all _ (List.getElem_mem hk2)
      obtain ⟨m1, m2, m3⟩ := hm _ (List.getElem_mem hk1)
      have HX : Hid (cs[k].pl = ds[k].pl → ∀ j (h1 : j < cs.length) (h2 : j < ds.length), j < k + 1 → cs[j].pl = ds[j].pl) := hide (fun h j h1 h2 h' => by
        by_cases e : j = k
        · subst e; exact h
        · exact unhide HJ j h1 h2 (by omega))
      have HN : Hid (¬ cs[k].pl = ds[k].pl → false = q) := hide (fun h => iff_no (unhide HQ) (fun e => h (by
          have := congrArg (fun l => l[k]?) e
          simpa [hk1, hk2] using this)))
      subst ha
      subst ha'
      clear HJ hA1 hB1
      generalize cs[k] = c at c0 c1 c2 c3 c4 c5 hx m1 m2 m3 HX HN
      generalize ds[k] = d at d0 d1 d2 d3 d4 d5 hy HX HN
      obtain ⟨p, hp⟩ := bool_of (c.pl = d.pl)
      have F := fun W hA hB => keepCond_q c d p W hA hB m1 m2 m3 (hide hp)
      go_wp2_with fail
      have F1 := cls (wr := wr) (fun V hV => F V (hx.on hV) (hy.on hV))
      have g0 := cell_regrown c0
      have g1 := cell_regrown c1
      have g2 := cell_regrown c2
      have g3 := cell_regrown c3
      have g4 := cell_regrown c4
      have g5 := cell_regrown c5
      have i0 := cell_regrown d0
      have i1 := cell_regrown d1
      have i2 := cell_regrown d2
      have i3 := cell_regrown d3
      have i4 := cell_regrown d4
      have i5 := cell_regrown d5
      clear F c0 c1 c2 c3 c4 c5 d0 d1 d2 d3 d4 d5 hx hy m1 m2 m3
      refine wp_region_quiet_below (by kernel_rfl) (by kernel_rfl) ?_
      repeat (go_big_quiet_step (with_reducible exact F1 _ _))
      refine wpQuiet_nil ?_
      intro _ hw'
      obtain ⟨⟨dq, osq⟩, hw''⟩ := hw'
      subst hw''
      have hb2 := below_regrown wr dq osq
      clear F1 g0 g1 g2 g3 g4 g5 i0 i1 i2 i3 i4 i5
      generalize Sort.grow (redrawn wr dq) osq = w9 at hb2
      cases p with
      | false =>
        have HR := hide (unhide HN (fun e => by have := hp.2 e; cases this))
        clear hp
        go_wp2_with fail
        go_ret
        exact ⟨ret_bool' (unhide HR), bt hbw hb2⟩
      | true =>
        have HY := hide (unhide HX (hp.1 rfl))
        have hbw2 := bt hbw hb2
        clear hp HX HN hbw hb2
        go_wp2_with fail
        go_roundw
        case rel => exact ⟨k + 1, by omega, by go_num, HY, hbw2⟩
        case measure => simp [intOf]; omega
    · have HR := hide (show true = q from iff_yes (unhide HQ) (by
        apply List.ext_getElem
        · simp; omega
        · intro i h1 h2
          simp only [List.getElem_map]
          exact unhide HJ i (by simpa using h1) (by simpa using h2) (by simp at h1; omega)))
      clear HJ hA1 hB1
      go_wp2_with fail
      go_ret
      exact ⟨ret_bool' (unhide HR), hbw⟩
end Go.Proofs.YtcjnhhbcleljmaaGreatDoor.Sb
namespace Go.Proofs.YtcjnhhbcleljmaaGreatDoor.Sb
open Go.RowKit
open V
open Ex (RowO LiesO flatO liesO_own)

theorem apl_iff {x y : Az} : x.pl = y.pl ↔ x.k = y.k ∧ x.n = y.n ∧ x.wh = y.wh ∧ x.es.map Ez.xs = y.es.map Ez.xs := by
  unfold Az.pl
  simp only [Prod.mk.injEq]
  constructor
  · rintro ⟨h1, h2, h3, h4⟩
    exact ⟨h1, ByteArray.ext (Array.toList_inj.1 h2), h4, h3⟩
  · rintro ⟨h1, h2, h3, h4⟩
    exact ⟨h1, by rw [h2], h4, h3⟩
theorem rpl_iff {x y : Rz} : x.pl = y.pl ↔ x.n = y.n ∧ x.p = y.p ∧ x.cs.map Cd.pl = y.cs.map Cd.pl ∧ x.zs.map Az.pl = y.zs.map Az.pl := by
  unfold Rz.pl
  simp only [Prod.mk.injEq]
  constructor
  · rintro ⟨h1, h2, h3, h4⟩
    exact ⟨ByteArray.ext (Array.toList_inj.1 h1), h2, h3, h4⟩
  · rintro ⟨h1, h2, h3, h4⟩
    exact ⟨by rw [h1], h2, h3, h4⟩
/-- Two acts' boxes. -/
theorem z2_of (w : World) (c d : Az) : BZ ((w.alloc (bxZ c)).alloc (bxZ d)) w.heap.size c ∧ BZ ((w.alloc (bxZ c)).alloc (bxZ d)) (w.heap.size + 1) d ∧ Below w.heap.size w ((w.alloc (bxZ c)).alloc (bxZ d)) := by
  have s1 : (w.alloc (bxZ c)).heap.size = w.heap.size + 1 := by simp
  have h1 := heap_alloc_new (w.alloc (bxZ c)) (bxZ d)
  rw [s1] at h1
  have h0 : ((w.alloc (bxZ c)).alloc (bxZ d)).heap[w.heap.size]? = some (bxZ c) := by
    rw [Lib.alloc_old _ _ _ (by omega)]; exact heap_alloc_new w (bxZ c)
  exact ⟨bz_of h0, bz_of h1, ((Below.refl _ _).alloc (Nat.le_refl _) _).alloc (by simp) _⟩
theorem r2_of (w : World) (c d : Rz) : BR ((w.alloc (bxR c)).alloc (bxR d)) w.heap.size c ∧ BR ((w.alloc (bxR c)).alloc (bxR d)) (w.heap.size + 1) d ∧ Below w.heap.size w ((w.alloc (bxR c)).alloc (bxR d)) := by
  have s1 : (w.alloc (bxR c)).heap.size = w.heap.size + 1 := by simp
  have h1 := heap_alloc_new (w.alloc (bxR c)) (bxR d)
  rw [s1] at h1
  have h0 : ((w.alloc (bxR c)).alloc (bxR d)).heap[w.heap.size]? = some (bxR c) := by
    rw [Lib.alloc_old _ _ _ (by omega)]; exact heap_alloc_new w (bxR c)
  exact ⟨br_of h0, br_of h1, ((Below.refl _ _).alloc (Nat.le_refl _) _).alloc (by simp) _⟩
/-- What a comparison of two lists asks of their parts. -/
theorem map_step {α β : Type} {f : α → β} {xs ys : List α} {k : Nat} (h1 : k < xs.length) (h2 : k < ys.length) (h : f xs[k] = f ys[k]) (hs : ∀ j (h1 : j < xs.length) (h2 : j < ys.length), j < k → f xs[j] = f ys[j]) : ∀ j (h1 : j < xs.length) (h2 : j < ys.length), j < k + 1 → f xs[j] = f ys[j] := fun j g1 g2 h' => by
  by_cases e : j = k
  · subst e; exact h
  · exact hs j g1 g2 (by omega)
theorem map_ne {α β : Type} {f : α → β} {xs ys : List α} {k : Nat} (h1 : k < xs.length) (h2 : k < ys.length) (h : ¬ f xs[k] = f ys[k]) : ¬ xs.map f = ys.map f := fun e => h (by
  have := congrArg (fun l => l[k]?) e
  simpa [h1, h2] using this)
theorem map_len {α β : Type} {f : α → β} {xs ys : List α} (h : xs.length ≠ ys.length) : ¬ xs.map f = ys.map f := fun e => h (by
  have := congrArg List.length e
  simpa using this)
theorem map_all {α β : Type} {f : α → β} {xs ys : List α} {k : Nat} (hl : xs.length = ys.length) (hk : xs.length ≤ k) (hs : ∀ j (h1 : j < xs.length) (h2 : j < ys.length), j < k → f xs[j] = f ys[j]) : xs.map f = ys.map f := by
  apply List.ext_getElem
  · simp; omega
  · intro i h1 h2
    simp only [List.getElem_map]
    exact hs i (by simpa using h1) (by simpa using h2) (by simp at h1; omega)

set_option maxHeartbeats 4000000 in
set_option maxRecDepth 20000 in
theorem keepAct_q (x y : Az) (q : Bool) (w : World) (hx : x.In w) (hy : y.In w) (hm : x.m ≤ 1000) (he : ∀ e ∈ x.es, e.l ≤ 20000) (HQ : Hid (q = true ↔ x.pl = y.pl)) :
    Calls Tryz.prog 59 #[.agg #[.int .i64 x.k, .string x.n, .slice x.a x.m x.mc, .int .i64 x.wh], .agg #[.int .i64 y.k, .string y.n, .slice y.a y.m y.mc, .int .i64 y.wh]] w fun e w' => e = .returned (.bool q) ∧ Below w.heap.size w w' := by
  obtain ⟨T0, S0, hw0⟩ := z2_of w x y
  have hx0 := Az.In.on hx hw0
  have hy0 := Az.In.on hy hw0
  have hle := LiesE.le hx
  have hge := LiesE.ge hx
  have hle' := LiesE.le hy
  have hge' := LiesE.ge hy
  clear hx hy
  obtain ⟨c0, c1, c2, c3⟩ := T0
  obtain ⟨d0, d1, d2, d3⟩ := S0
  have NO := hide (show ¬ (x.k = y.k ∧ x.n = y.n ∧ x.wh = y.wh ∧ x.es.map Ez.xs = y.es.map Ez.xs) → false = q from fun h => iff_no (unhide HQ) (fun e => h (apl_iff.1 e)))
  by_cases h1 : x.k = y.k
  case neg =>
    have e1 : (x.k != y.k) = true := by simp [h1]
    have HR := hide (unhide NO (fun h => h1 h.1))
    clear h1 NO HQ
    go_enter Tryz.func59, Tryz.ntmps59
    go_wp2_with fail
    go_ret
    exact ⟨ret_bool' (unhide HR), hw0⟩
  have e1 : (x.k != y.k) = false := by simp [h1]
  have H1 := hide h1
  clear h1
  by_cases h2 : x.n = y.n
  case neg =>
    have e2 : (x.n.toList == y.n.toList) = false := by
      rw [beq_eq_false_iff_ne]
      exact fun e => h2 (toList_inj.1 e)
    have HR := hide (unhide NO (fun h => h2 h.2.1))
    clear h2 NO HQ
    go_enter Tryz.func59, Tryz.ntmps59
    go_wp2_with fail
    go_ret
    exact ⟨ret_bool' (unhide HR), hw0⟩
  have e2 : (x.n.toList == y.n.toList) = true := by simp [h2]
  have H2 := hide h2
  clear h2
  by_cases h3 : x.wh = y.wh
  case neg =>
    have e3 : (x.wh != y.wh) = true := by simp [h3]
    have HR := hide (unhide NO (fun h => h3 h.2.2.1))
    clear h3 NO HQ
    go_enter Tryz.func59, Tryz.ntmps59
    go_wp2_with fail
    go_ret
    exact ⟨ret_bool' (unhide HR), hw0⟩
  have e3 : (x.wh != y.wh) = false := by simp [h3]
  have H3 := hide h3
  clear h3
  by_cases h4 : x.m = y.m
  case neg =>
    have e4 : ((x.m : Int) != y.m) = true := by simp; omega
    have HR := hide (unhide NO (fun h => map_len (by omega) h.2.2.2))
    clear h4 NO HQ hle hge hle' hge'
    go_enter Tryz.func59, Tryz.ntmps59
    go_wp2_with fail
    go_ret
    exact ⟨ret_bool' (unhide HR), hw0⟩
  have e4 : ((x.m : Int) != y.m) = false := by simp [h4]
  have h4a : x.m ≤ y.m := by omega
  have h4b : y.m ≤ x.m := by omega
  clear h4
  go_enter Tryz.func59, Tryz.ntmps59
  go_wp2_with fail
  have T0 := BZ.mk (z := x) c0 c1 c2 c3
  have S0 := BZ.mk (z := y) d0 d1 d2 d3
  clear e1 e2 e3 e4 c0 c1 c2 c3 d0 d1 d2 d3
  generalize (w.alloc (bxZ x)).alloc (bxZ y) = W at hw0 hx0 hy0 T0 S0
  go_loopw [5] (fun i wr => ∃ k : Nat, k ≤ x.m ∧ i = .int .i64 k ∧ Hid (∀ j (h1 : j < x.es.length) (h2 : j < y.es.length), j < k → x.es[j].xs = y.es[j].xs) ∧ Below W.heap.size W wr) (fun i _ => x.m - (intOf i).toNat)
  case atStart => exact ⟨0, Nat.zero_le _, rfl, hide (fun j _ _ h => by omega), Below.refl _ _⟩
  case round =>
    obtain ⟨k, hk, rfl, HJ, hbw⟩ := hrel
    have hx1 := Az.In.on hx0 hbw
    have hy1 := Az.In.on hy0 hbw
    obtain ⟨c0, c1, c2, c3⟩ := T0.on hbw
    obtain ⟨d0, d1, d2, d3⟩ := S0.on hbw
    by_cases hlt : k < x.m
    · have hk1 : k < x.es.length := by omega
      have hk2 : k < y.es.length := by omega
      have hlt2 : k < y.m := by omega
      obtain ⟨b, o, ha, hbl, f0⟩ := (LiesE.row hx1).up hk1
      obtain ⟨b', o', ha', hbl', g0⟩ := (LiesE.row hy1).up hk2
      have gx := LiesE.all hx1 _ (List.getElem_mem hk1)
      have gy := LiesE.all hy1 _ (List.getElem_mem hk2)
      have m1 := he _ (List.getElem_mem hk1)
      have HX : Hid (x.es[k].xs = y.es[k].xs → ∀ j (h1 : j < x.es.length) (h2 : j < y.es.length), j < k + 1 → x.es[j].xs = y.es[j].xs) := hide (fun h => map_step (f := Ez.xs) hk1 hk2 h (unhide HJ))
      have HN : Hid (¬ x.es[k].xs = y.es[k].xs → false = q) := hide (fun h => unhide NO (fun e => map_ne (f := Ez.xs) hk1 hk2 h e.2.2.2))
      rw [ha] at c2
      rw [ha'] at d2
      clear HJ hx1 hy1 c0 c1 c3 d0 d1 d3 ha ha' NO HQ hle hge hle' hge' h4a h4b
      generalize x.es[k] = u at f0 gx m1 HX HN
      generalize y.es[k] = v at g0 gy HX HN
      obtain ⟨p, hp⟩ : ∃ p, decide (u.xs = v.xs) = p := ⟨_, rfl⟩
      have F := fun (W : World) (hA : LiesO W u.a u.l u.c u.xs) (hB : LiesO W v.a v.l v.c v.xs) => keepOps_any u.a v.a u.l v.l u.c v.c u.xs v.xs W (LiesO.row hA) (LiesO.row hB) (LiesO.le hA) (LiesO.ge hA) (LiesO.le hB) (LiesO.ge hB) m1
      rw [hp] at F
      go_wp2_with fail
      have F1 := cls (wr := wr) (fun V hV => F V (LiesO.on gx hV) (LiesO.on gy hV))
      have k0 := cell_regrown c2
      have k1 := cell_regrown d2
      have k2 := cell_regrown f0
      have k3 := cell_regrown g0
      clear F c2 d2 f0 g0 gx gy m1
      refine wp_region_quiet_below (by kernel_rfl) (by kernel_rfl) ?_
      repeat (go_big_quiet_step (with_reducible exact F1 _ _))
      refine wpQuiet_nil ?_
      intro _ hw'
      obtain ⟨⟨dq, osq⟩, hw''⟩ := hw'
      subst hw''
      have hb2 := below_regrown wr dq osq
      clear F1 k0 k1 k2 k3
      generalize Sort.grow (redrawn wr dq) osq = w9 at hb2
      cases p with
      | false =>
        have HR := hide (unhide HN (of_decide_eq_false hp))
        clear hp
        go_wp2_with fail
        go_ret
        exact ⟨ret_bool' (unhide HR), bt hw0 (bt hbw hb2)⟩
      | true =>
        have HY := hide (unhide HX (of_decide_eq_true hp))
        have hbw2 := bt hbw hb2
        clear hp HX HN hbw hb2
        go_wp2_with fail
        go_roundw
        case rel => exact ⟨k + 1, by omega, by go_num, HY, hbw2⟩
        case measure => simp [intOf]; omega
    · have HR := hide (iff_yes (unhide HQ) (apl_iff.2 ⟨unhide H1, unhide H2, unhide H3, map_all (f := Ez.xs) (k := k) (by omega) (by omega) (unhide HJ)⟩))
      clear HJ NO HQ hle hge hle' hge' h4a h4b
      go_wp2_with fail
      go_ret
      exact ⟨ret_bool' (unhide HR), bt hw0 hbw⟩

set_option maxHeartbeats 4000000 in
set_option maxRecDepth 20000 in
theorem keepRule_q (x y : Rz) (q : Bool) (w : World) (hx : x.In w) (hy : y.In w) (hc : x.cl ≤ 1000) (hm : ∀ c ∈ x.cs, c.m ≤ 1000 ∧ c.ll ≤ 20000 ∧ c.rl ≤ 20000) (ha : x.al ≤ 1000) (hz : ∀ z ∈ x.zs, z.m ≤ 1000 ∧ ∀ e ∈ z.es, e.l ≤ 20000) (HQ : Hid (q = true ↔ x.pl = y.pl)) :
    Calls Tryz.prog 16 #[.agg #[.string x.n, .int .i64 x.p, .slice x.ca x.cl x.cc, .slice x.aa x.al x.ac], .agg #[.string y.n, .int .i64 y.p, .slice y.ca y.cl y.cc, .slice y.aa y.al y.ac]] w fun e w' => e = .returned (.bool q) ∧ Below w.heap.size w w' := by
  obtain ⟨T0, S0, hw0⟩ := r2_of w x y
  have hx0 := hx.on hw0
  have hy0 := hy.on hw0
  have hle := hx.a.le
  have hge := hx.a.ge
  have hle' := hy.a.le
  have hge' := hy.a.ge
  clear hx hy
  obtain ⟨c0, c1, c2, c3⟩ := T0
  obtain ⟨d0, d1, d2, d3⟩ := S0
  have NO := hide (show ¬ (x.n = y.n ∧ x.p = y.p ∧ x.cs.map Cd.pl = y.cs.map Cd.pl ∧ x.zs.map Az.pl = y.zs.map Az.pl) → false = q from fun h => iff_no (unhide HQ) (fun e => h (rpl_iff.1 e)))
  by_cases h2 : x.n = y.n
  case neg =>
    have e2 : (x.n.toList == y.n.toList) = false := by
      rw [beq_eq_false_iff_ne]
      exact fun e => h2 (toList_inj.1 e)
    have HR := hide (unhide NO (fun h => h2 h.1))
    clear h2 NO HQ
    go_enter Tryz.func16, Tryz.ntmps16
    go_wp2_with fail
    go_ret
    exact ⟨ret_bool' (unhide HR), hw0⟩
  have e2 : (x.n.toList == y.n.toList) = true := by simp [h2]
  have H2 := hide h2
  clear h2
  by_cases h3 : x.p = y.p
  case neg =>
    have e3 : (x.p != y.p) = true := by simp [h3]
    have HR := hide (unhide NO (fun h => h3 h.2.1))
    clear h3 NO HQ
    go_enter Tryz.func16, Tryz.ntmps16
    go_wp2_with fail
    go_ret
    exact ⟨ret_bool' (unhide HR), hw0⟩
  have e3 : (x.p != y.p) = false := by simp [h3]
  have H3 := hide h3
  clear h3
  obtain ⟨p, hp⟩ := bool_of (x.cs.map Cd.pl = y.cs.map Cd.pl)
  have F := fun W hA hB => keepConds_q x.ca y.ca x.cl y.cl x.cc y.cc x.cs y.cs p W hA hB hc hm (hide hp)
  go_enter Tryz.func16, Tryz.ntmps16
  go_wp2_with fail
  refine (F _ hx0.c hy0.c).mono ?_
  rintro e w2 ⟨rfl, hb2⟩
  have T2 := (BR.mk (r := x) c0 c1 c2 c3).on hb2
  have S2 := (BR.mk (r := y) d0 d1 d2 d3).on hb2
  have hx2 := hx0.on hb2
  have hy2 := hy0.on hb2
  have hw2 := bt hw0 hb2
  clear F c0 c1 c2 c3 d0 d1 d2 d3 e2 e3 hw0 hb2 hx0 hy0 hm hc
  cases p with
  | false =>
    have HR := hide (unhide NO (fun h => by have := hp.2 h.2.2.1; cases this))
    clear hp
    go_wp2_with fail
    go_ret
    exact ⟨ret_bool' (unhide HR), hw2⟩
  | true =>
  have H1 := hide (hp.1 rfl)
  clear hp
  obtain ⟨c0, c1, c2, c3⟩ := T2
  obtain ⟨d0, d1, d2, d3⟩ := S2
  by_cases h4 : x.al = y.al
  case neg =>
    have e4 : ((x.al : Int) != y.al) = true := by simp; omega
    have HR := hide (unhide NO (fun h => map_len (by omega) h.2.2.2))
    clear h4 NO HQ hle hge hle' hge'
    go_wp2_with fail
    go_ret
    exact ⟨ret_bool' (unhide HR), hw2⟩
  have e4 : ((x.al : Int) != y.al) = false := by simp [h4]
  have h4a : x.al ≤ y.al := by omega
  have h4b : y.al ≤ x.al := by omega
  clear h4
  go_wp2_with fail
  have T0 := BR.mk (r := x) c0 c1 c2 c3
  have S0 := BR.mk (r := y) d0 d1 d2 d3
  clear e4 c0 c1 c2 c3 d0 d1 d2 d3
  go_loopw [5] (fun i wr => ∃ k : Nat, k ≤ x.al ∧ i = .int .i64 k ∧ Hid (∀ j (h1 : j < x.zs.length) (h2 : j < y.zs.length), j < k → x.zs[j].pl = y.zs[j].pl) ∧ Below w2.heap.size w2 wr) (fun i _ => x.al - (intOf i).toNat)
  case atStart => exact ⟨0, Nat.zero_le _, rfl, hide (fun j _ _ h => by omega), Below.refl _ _⟩
  case round =>
    obtain ⟨k, hk, rfl, HJ, hbw⟩ := hrel
    have hx1 := hx2.on hbw
    have hy1 := hy2.on hbw
    obtain ⟨c0, c1, c2, c3⟩ := T0.on hbw
    obtain ⟨d0, d1, d2, d3⟩ := S0.on hbw
    by_cases hlt : k < x.al
    · have hk1 : k < x.zs.length := by omega
      have hk2 : k < y.zs.length := by omega
      have hlt2 : k < y.al := by omega
      obtain ⟨b, o, ha, hbl, f0, f1, f2, f3⟩ := hx1.a.row.up hk1
      obtain ⟨b', o', ha', hbl', g0, g1, g2, g3⟩ := hy1.a.row.up hk2
      have gx := hx1.a.all _ (List.getElem_mem hk1)
      have gy := hy1.a.all _ (List.getElem_mem hk2)
      obtain ⟨m1, m2⟩ := hz _ (List.getElem_mem hk1)
      have HX : Hid (x.zs[k].pl = y.zs[k].pl → ∀ j (h1 : j < x.zs.length) (h2 : j < y.zs.length), j < k + 1 → x.zs[j].pl = y.zs[j].pl) := hide (fun h => map_step (f := Az.pl) hk1 hk2 h (unhide HJ))
      have HN : Hid (¬ x.zs[k].pl = y.zs[k].pl → false = q) := hide (fun h => unhide NO (fun e => map_ne (f := Az.pl) hk1 hk2 h e.2.2.2))
      rw [ha] at c3
      rw [ha'] at d3
      clear HJ hx1 hy1 c0 c1 c2 d0 d1 d2 ha ha' NO HQ hle hge hle' hge' h4a h4b
      generalize x.zs[k] = u at f0 f1 f2 f3 gx m1 m2 HX HN
      generalize y.zs[k] = v at g0 g1 g2 g3 gy HX HN
      obtain ⟨p, hp⟩ := bool_of (u.pl = v.pl)
      have F := fun W hA hB => keepAct_q u v p W hA hB m1 m2 (hide hp)
      go_wp2_with fail
      have F1 := cls (wr := wr) (fun V hV => F V (Az.In.on gx hV) (Az.In.on gy hV))
      have k0 := cell_regrown c3
      have k1 := cell_regrown d3
      have k2 := cell_regrown f0
      have k3 := cell_regrown f1
      have k4 := cell_regrown f2
      have k5 := cell_regrown f3
      have k6 := cell_regrown g0
      have k7 := cell_regrown g1
      have k8 := cell_regrown g2
      have k9 := cell_regrown g3
      clear F c3 d3 f0 f1 f2 f3 g0 g1 g2 g3 gx gy m1 m2
      refine wp_region_quiet_below (by kernel_rfl) (by kernel_rfl) ?_
      repeat (go_big_quiet_step (with_reducible exact F1 _ _))
      refine wpQuiet_nil ?_
      intro _ hw'
      obtain ⟨⟨dq, osq⟩, hw''⟩ := hw'
      subst hw''
      have hb2 := below_regrown wr dq osq
      clear F1 k0 k1 k2 k3 k4 k5 k6 k7 k8 k9
      generalize Sort.grow (redrawn wr dq) osq = w9 at hb2
      cases p with
      | false =>
        have HR := hide (unhide HN (fun e => by have := hp.2 e; cases this))
        clear hp
        go_wp2_with fail
        go_ret
        exact ⟨ret_bool' (unhide HR), bt hw2 (bt hbw hb2)⟩
      | true =>
        have HY := hide (unhide HX (hp.1 rfl))
        have hbw2 := bt hbw hb2
        clear hp HX HN hbw hb2
        go_wp2_with fail
        go_roundw
        case rel => exact ⟨k + 1, by omega, by go_num, HY, hbw2⟩
        case measure => simp [intOf]; omega
    · have HR := hide (iff_yes (unhide HQ) (rpl_iff.2 ⟨unhide H2, unhide H3, unhide H1, map_all (f := Az.pl) (k := k) (by omega) (by omega) (unhide HJ)⟩))
      clear HJ NO HQ hle hge hle' hge' h4a h4b
      go_wp2_with fail
      go_ret
      exact ⟨ret_bool' (unhide HR), bt hw2 hbw⟩
end Go.Proofs.YtcjnhhbcleljmaaGreatDoor.Sb
namespace Go.Proofs.YtcjnhhbcleljmaaGreatDoor.Sb
open Go.RowKit
open V
open Ex (RowO LiesO flatO liesO_own)

theorem infoC : (Tryz.prog.info? 83).map (fun i => (i.zero, i.size, i.bytes)) = some (some (.agg #[.int .i64 0, .string ⟨#[]⟩, .slice none 0 0, .int .i64 0, .slice none 0 0, .slice none 0 0]), 6, 104) := by kernel_rfl

theorem lies_ownE {w : World} {B n cp : Nat} {e : TypeId} {ao : Option Addr} {xs : List Bb} (h : w.ownsRow B e 4 (.slice ao n cp) n (flatB xs)) : Lies w ao n cp xs := by
  have hn : n = xs.length := by have := h.1; rw [flatB_len] at this; omega
  rcases h.2 with ⟨hv, h0⟩ | ⟨g, cap, cur, hv, _, hg, hc, _, _, ht⟩
  · simp only [Value.slice.injEq] at hv
    exact ⟨Or.inl (List.eq_nil_of_length_eq_zero (by omega)), hn, fun _ => hv.2.2, by omega⟩
  · simp only [Value.slice.injEq] at hv
    obtain ⟨rfl, _, rfl⟩ := hv
    refine ⟨Or.inr ⟨g, 0, rfl, (Array.getElem?_eq_some_iff.1 hg).1, fun i v hv => ?_⟩, hn, (fun h => by cases h), hc⟩
    have hi : i < n := by rw [hn]; exact (List.getElem?_eq_some_iff.1 hv).1
    obtain ⟨h0, h1, h2, h3⟩ := flatB_get xs i v hv
    rw [← ht] at h0 h1 h2 h3
    rw [List.getElem?_take_of_lt (by omega), Array.getElem?_toList] at h0 h1 h2 h3
    rw [Lib.cell_of_heap hg, Lib.cell_of_heap hg, Lib.cell_of_heap hg, Lib.cell_of_heap hg]
    simpa using ⟨h0, h1, h2, h3⟩
/-- A condition's cells. -/
abbrev flatC (d : Cd) : List Value := [.int .i64 d.k, .string d.n, .slice d.a d.m d.mc, .int .i64 d.h, .slice d.la d.ll d.lc, .slice d.ra d.rl d.rc]
theorem cells_c {W : World} {b : Nat} {d : Cd} (h : W.heap[b]? = some (bxC d)) : ∀ (j : Nat) (u : Value), (flatC d)[j]? = some u → W.cell? ((⟨b, 0, none⟩ : Addr).add j) = some u := by
  intro j u hu
  rw [WideShapes.add_plain, Lib.cell_of_heap h]
  match j, hu with
  | 0, hu => simpa using hu
  | 1, hu => simpa using hu
  | 2, hu => simpa using hu
  | 3, hu => simpa using hu
  | 4, hu => simpa using hu
  | 5, hu => simpa using hu
  | j + 6, hu => simp at hu
theorem oneCell_c (d : Cd) : ∀ u ∈ flatC d, u.oneCell' = true := by
  intro u hu
  simp only [flatC, List.mem_cons, List.not_mem_nil, or_false] at hu
  rcases hu with rfl | rfl | rfl | rfl | rfl | rfl <;> rfl
theorem bc_own {w : World} {B cp : Nat} {q : Option Addr} {d : Cd} (h : w.ownsRow B 83 6 (.slice q 1 cp) 1 (flatC d)) : ∃ g, q = some ⟨g, 0, none⟩ ∧ B ≤ g ∧ BC w g d := by
  rcases h.2 with ⟨hv, h0⟩ | ⟨g, cap, cur, hv, hB, hg, hc, _, _, ht⟩
  · omega
  · simp only [Value.slice.injEq] at hv
    obtain ⟨rfl, _, rfl⟩ := hv
    have hx : ∀ (i : Nat) (u : Value), i < 6 → (flatC d)[i]? = some u → w.cell? ⟨g, i, none⟩ = some u := by
      intro i u hi hu
      rw [← ht, List.getElem?_take_of_lt (by omega), Array.getElem?_toList] at hu
      rw [Lib.cell_of_heap hg]
      exact hu
    exact ⟨g, rfl, hB, hx 0 _ (by omega) rfl, hx 1 _ (by omega) rfl, hx 2 _ (by omega) rfl, hx 3 _ (by omega) rfl, hx 4 _ (by omega) rfl, hx 5 _ (by omega) rfl⟩

/-- A condition's box, four of its cells written over. -/
theorem sets_c {W : World} {p : Nat} {c : Cd} (h : BC W p c) (a' : Option Addr) (mc' : Nat) (la' : Option Addr) (lc' : Nat) (ra' : Option Addr) (rc' : Nat) :
    BC ((((W.setCell ⟨p, 1, none⟩ (.string c.n)).setCell ⟨p, 2, none⟩ (.slice a' c.m mc')).setCell ⟨p, 4, none⟩ (.slice la' c.ll lc')).setCell ⟨p, 5, none⟩ (.slice ra' c.rl rc')) p (c.tw a' mc' la' lc' ra' rc') := by
  have g2 : (W.setCell ⟨p, 1, none⟩ (.string c.n)).cell? ⟨p, 2, none⟩ = some (.slice c.a c.m c.mc) := by rw [World.cell?_setCell_other _ _ _ _ (by simp)]; exact h.c2
  have g4 : ((W.setCell ⟨p, 1, none⟩ (.string c.n)).setCell ⟨p, 2, none⟩ (.slice a' c.m mc')).cell? ⟨p, 4, none⟩ = some (.slice c.la c.ll c.lc) := by rw [World.cell?_setCell_other _ _ _ _ (by simp), World.cell?_setCell_other _ _ _ _ (by simp)]; exact h.c4
  have g5 : (((W.setCell ⟨p, 1, none⟩ (.string c.n)).setCell ⟨p, 2, none⟩ (.slice a' c.m mc')).setCell ⟨p, 4, none⟩ (.slice la' c.ll lc')).cell? ⟨p, 5, none⟩ = some (.slice c.ra c.rl c.rc) := by rw [World.cell?_setCell_other _ _ _ _ (by simp), World.cell?_setCell_other _ _ _ _ (by simp), World.cell?_setCell_other _ _ _ _ (by simp)]; exact h.c5
  refine ⟨?_, ?_, ?_, ?_, ?_, ?_⟩
  · rw [World.cell?_setCell_other _ _ _ _ (by simp), World.cell?_setCell_other _ _ _ _ (by simp), World.cell?_setCell_other _ _ _ _ (by simp), World.cell?_setCell_other _ _ _ _ (by simp)]; exact h.c0
  · rw [World.cell?_setCell_other _ _ _ _ (by simp), World.cell?_setCell_other _ _ _ _ (by simp), World.cell?_setCell_other _ _ _ _ (by simp), World.cell?_setCell_same _ _ _ h.c1]
  · rw [World.cell?_setCell_other _ _ _ _ (by simp), World.cell?_setCell_other _ _ _ _ (by simp), World.cell?_setCell_same _ _ _ g2]
  · rw [World.cell?_setCell_other _ _ _ _ (by simp), World.cell?_setCell_other _ _ _ _ (by simp), World.cell?_setCell_other _ _ _ _ (by simp), World.cell?_setCell_other _ _ _ _ (by simp)]; exact h.c3
  · rw [World.cell?_setCell_other _ _ _ _ (by simp), World.cell?_setCell_same _ _ _ g4]
  · rw [World.cell?_setCell_same _ _ _ g5]
/-- Rows that a call owns stay where a lower block is written over. -/
theorem own_sets {W : World} {p B : Nat} {e : TypeId} {s : Nat} {v : Value} {n : Nat} {xs : List Value} (h : W.ownsRow B e s v n xs) (hp : p < B) (x1 x2 x4 x5 : Value) :
    ((((W.setCell ⟨p, 1, none⟩ x1).setCell ⟨p, 2, none⟩ x2).setCell ⟨p, 4, none⟩ x4).setCell ⟨p, 5, none⟩ x5).ownsRow B e s v n xs :=
  ownsRow_setCell_below (ownsRow_setCell_below (ownsRow_setCell_below (ownsRow_setCell_below h (a := ⟨p, 1, none⟩) hp x1) (a := ⟨p, 2, none⟩) hp x2) (a := ⟨p, 4, none⟩) hp x4) (a := ⟨p, 5, none⟩) hp x5
theorem below_sets {w W : World} {p B : Nat} (h : Below B w W) (hp : B ≤ p) (x1 x2 x4 x5 : Value) :
    Below B w ((((W.setCell ⟨p, 1, none⟩ x1).setCell ⟨p, 2, none⟩ x2).setCell ⟨p, 4, none⟩ x4).setCell ⟨p, 5, none⟩ x5) :=
  (((h.setCell (p := ⟨p, 1, none⟩) hp x1).setCell (p := ⟨p, 2, none⟩) hp x2).setCell (p := ⟨p, 4, none⟩) hp x4).setCell (p := ⟨p, 5, none⟩) hp x5
/-- No block of the one's is the other's. -/
def Apart (a b : Value) : Prop := ∀ k, a.ownBlock = some k → b.ownBlock = some k → False
theorem apart_none (v : Value) : Apart v (.slice none 0 0) := fun k _ h => by cases h
theorem Apart.ne {a b : Value} (h : Apart a b) : a.ownBlock = none ∨ a.ownBlock ≠ b.ownBlock := by
  cases ha : a.ownBlock with
  | none => exact Or.inl rfl
  | some k => exact Or.inr (fun e => h k ha e.symm)
theorem apart_less {a v : Value} {s : Nat} (ha : ∀ m, a.ownBlock = some m → s ≤ m) (hv : ∀ m, v.ownBlock = some m → m < s) : Apart a v := fun k h1 h2 => by
  have := ha k h1
  have := hv k h2
  omega
theorem apart_to {a v v' : Value} {s : Nat} (h : Apart a v) (h5 : v'.ownBlock = v.ownBlock ∨ v'.ownBlock = some s) (ha : ∀ m, a.ownBlock = some m → m < s) : Apart a v' := fun k h1 h2 => by
  rcases h5 with e | e
  · exact h k h1 (e.symm.trans h2)
  · have := ha k h1
    rw [e] at h2
    cases h2
    omega
/-- A condition's rows, the call's own, beside v's block. -/
structure Cd.Own (c : Cd) (w : World) (B : Nat) (v : Value) : Prop where
  t : w.ownsRow B 141 4 (.slice c.a c.m c.mc) c.m (flatB c.ts)
  x : w.ownsRow B 144 5 (.slice c.la c.ll c.lc) c.ll (flatO c.xs)
  y : w.ownsRow B 144 5 (.slice c.ra c.rl c.rc) c.rl (flatO c.ys)
  ta : Apart (.slice c.a c.m c.mc) v
  xa : Apart (.slice c.la c.ll c.lc) v
  ya : Apart (.slice c.ra c.rl c.rc) v
theorem Cd.Own.on {c : Cd} {w w' : World} {B : Nat} {v : Value} (h : c.Own w B v) (hb : Below w.heap.size w w') : c.Own w' B v := ⟨own_on h.t hb, own_on h.x hb, own_on h.y hb, h.ta, h.xa, h.ya⟩
theorem Cd.Own.beside {c : Cd} {w w' : World} {B : Nat} {v v' : Value} (h : c.Own w B v) (hg : w.grownBy w' v.ownBlock) (h5 : v'.ownBlock = v.ownBlock ∨ v'.ownBlock = some w.heap.size) : c.Own w' B v' :=
  ⟨h.t.kept hg h.ta.ne, h.x.kept hg h.xa.ne, h.y.kept hg h.ya.ne, apart_to h.ta h5 (fun m hm => (h.t.lt m hm).2), apart_to h.xa h5 (fun m hm => (h.x.lt m hm).2), apart_to h.ya h5 (fun m hm => (h.y.lt m hm).2)⟩
theorem Cd.Own.lies {c : Cd} {w : World} {B : Nat} {v : Value} (h : c.Own w B v) : c.In w := ⟨lies_ownE h.t, liesO_own h.x, liesO_own h.y⟩
/-- Conditions' cells, one behind the other. -/
def flatCs (cs : List Cd) : List Value := cs.flatMap flatC
theorem flatCs_app (xs ys : List Cd) : flatCs (xs ++ ys) = flatCs xs ++ flatCs ys := by simp [flatCs]
theorem flatCs_one (c : Cd) : flatCs [c] = flatC c := by simp [flatCs]
theorem flatCs_len (xs : List Cd) : (flatCs xs).length = xs.length * 6 := by
  induction xs with
  | nil => rfl
  | cons x r ih => rw [show x :: r = [x] ++ r from rfl, flatCs_app, List.length_append, ih, flatCs_one]; simp; omega
theorem flatCs_get (xs : List Cd) : ∀ (i : Nat) (x : Cd), xs[i]? = some x → ∀ j, j < 6 → (flatCs xs)[i * 6 + j]? = (flatC x)[j]? := by
  induction xs with
  | nil => intro i x h; simp at h
  | cons y r ih =>
    intro i x h j hj
    rw [show y :: r = [y] ++ r from rfl, flatCs_app, flatCs_one]
    match i with
    | 0 =>
      simp at h; subst h
      rw [List.getElem?_append_left (by simp; omega)]
      simp
    | i + 1 =>
      rw [List.getElem?_append_right (by simp; omega)]
      have := ih i x (by simpa using h) j hj
      rw [← this]
      congr 1
      simp; omega
/-- Twins' row and theirs, the call's own. -/
structure OwnC (w : World) (B : Nat) (v : Value) (cs : List Cd) : Prop where
  row : w.ownsRow B 83 6 v cs.length (flatCs cs)
  all : ∀ c ∈ cs, c.Own w B v
theorem OwnC.on {w w' : World} {B : Nat} {v : Value} {cs : List Cd} (h : OwnC w B v cs) (hb : Below w.heap.size w w') : OwnC w' B v cs := ⟨own_on h.row hb, fun c hc => (h.all c hc).on hb⟩
theorem OwnC.lies {w : World} {B cp : Nat} {q : Option Addr} {cs : List Cd} (h : OwnC w B (.slice q cs.length cp) cs) : LiesC w q cs.length cp cs := by
  rcases h.row.2 with ⟨hv, h0⟩ | ⟨g, cap, cur, hv, _, hg, hc, _, _, ht⟩
  · simp only [Value.slice.injEq] at hv
    exact ⟨Or.inl (List.eq_nil_of_length_eq_zero h0), Nat.le_refl _, Nat.le_refl _, fun _ => hv.2.2, by omega, fun c hc => (h.all c hc).lies⟩
  · simp only [Value.slice.injEq] at hv
    obtain ⟨rfl, _, rfl⟩ := hv
    refine ⟨Or.inr ⟨g, 0, rfl, (Array.getElem?_eq_some_iff.1 hg).1, fun i c hc' => ?_⟩, Nat.le_refl _, Nat.le_refl _, (fun h => by cases h), hc, fun c hc => (h.all c hc).lies⟩
    have hi : i < cs.length := (List.getElem?_eq_some_iff.1 hc').1
    have key : ∀ j (u : Value), j < 6 → (flatC c)[j]? = some u → w.cell? ⟨g, 0 + i * 6 + j, none⟩ = some u := by
      intro j u hj hu
      rw [← flatCs_get cs i c hc' j hj, ← ht, List.getElem?_take_of_lt (by omega), Array.getElem?_toList] at hu
      rw [Lib.cell_of_heap hg, Nat.zero_add]
      exact hu
    exact ⟨key 0 _ (by omega) rfl, key 1 _ (by omega) rfl, key 2 _ (by omega) rfl, key 3 _ (by omega) rfl, key 4 _ (by omega) rfl, key 5 _ (by omega) rfl⟩
theorem app_c {w : World} {ops : Array Oper} {rest : List Oper} {o : Oper} {a : Act} {Q : Exit → Act → World → Prop} (hgd : o.guard = none) (s x : Operand)
    (ho : o.op = .call { callee := .builtin .append, args := #[s, x], argTypes := #[22, 22] }) (B : Nat) (v : Value) (cs : List Cd) (c : Cd) (nb : Nat)
    (hs : a.eval s = v) (hx : a.eval x = .slice (some ⟨nb, 0, none⟩) 1 1) (hown : w.ownsRow B 83 6 v cs.length (flatCs cs)) (hnew : Hid (w.heap[nb]? = some (bxC c))) (hlen : cs.length ≤ 100) (hB : B ≤ w.heap.size)
    (h : ∀ v' w', w'.ownsRow B 83 6 v' (cs ++ [c]).length (flatCs (cs ++ [c])) → w.grownBy w' v.ownBlock → (v'.ownBlock = v.ownBlock ∨ v'.ownBlock = some w.heap.size) → wpList Tryz.prog ops Q rest (a.put o.dst v') w') :
    wpList Tryz.prog ops Q (o :: rest) a w := by
  obtain ⟨i0, hi, hz0, hz1, hz2⟩ := info_parts infoC
  refine wpList_append_own_at w hgd s x 22 ho B 83 i0 (.agg #[.int .i64 0, .string ⟨#[]⟩, .slice none 0 0, .int .i64 0, .slice none 0 0, .slice none 0 0]) 6 104 Tryz.underlying22 hi hz0 hz1 hz2 rfl (by decide) v cs.length (flatCs cs) hs hown ⟨nb, 0, none⟩ 1 1 (flatC c) hx rfl (cells_c (unhide hnew)) (oneCell_c c) (by unfold maxLen; omega) (by omega) hB ?_
  intro v' w' h1 h2 _ h4
  refine h v' w' ?_ h2 h4
  rw [flatCs_app, flatCs_one, List.length_append]
  exact h1

theorem tw_own {p B : Nat} {c : Cd} {wr W w1 w2 w3 : World} {q1 q2 q3 : Option Addr} {m1 m2 m3 : Nat} {v : Value} (hp : wr.heap.size = p) (hBp : B ≤ p) (hv : ∀ m, v.ownBlock = some m → m < p) (hlt : p < W.heap.size) (hbx : Below wr.heap.size wr W) (ho1 : w1.ownsRow W.heap.size 141 4 (.slice q1 c.m m1) c.m (flatB c.ts)) (hb1 : Below W.heap.size W.drew w1) (ho2 : w2.ownsRow w1.heap.size 144 5 (.slice q2 c.ll m2) c.ll (flatO c.xs)) (hb2 : Below w1.heap.size w1 w2) (ho3 : w3.ownsRow w2.heap.size 144 5 (.slice q3 c.rl m3) c.rl (flatO c.ys)) (hb3 : Below w2.heap.size w2 w3) (T3 : w3.heap[p]? = some (bxC c)) :
    ∃ (a' : Option Addr) (mc' : Nat) (la' : Option Addr) (lc' : Nat) (ra' : Option Addr) (rc' : Nat), BC ((((w3.setCell ⟨p, 1, none⟩ (.string c.n)).setCell ⟨p, 2, none⟩ (.slice q1 c.m m1)).setCell ⟨p, 4, none⟩ (.slice q2 c.ll m2)).setCell ⟨p, 5, none⟩ (.slice q3 c.rl m3)) p (c.tw a' mc' la' lc' ra' rc') ∧
      (c.tw a' mc' la' lc' ra' rc').Own ((((w3.setCell ⟨p, 1, none⟩ (.string c.n)).setCell ⟨p, 2, none⟩ (.slice q1 c.m m1)).setCell ⟨p, 4, none⟩ (.slice q2 c.ll m2)).setCell ⟨p, 5, none⟩ (.slice q3 c.rl m3)) B v ∧
      Below wr.heap.size wr ((((w3.setCell ⟨p, 1, none⟩ (.string c.n)).setCell ⟨p, 2, none⟩ (.slice q1 c.m m1)).setCell ⟨p, 4, none⟩ (.slice q2 c.ll m2)).setCell ⟨p, 5, none⟩ (.slice q3 c.rl m3)) := by
  have hd : Below W.drew.heap.size W.drew w1 := hb1
  have hs1 := hd.size
  have hs2 := hb2.size
  have hs0 : W.drew.heap.size = W.heap.size := rfl
  refine ⟨q1, m1, q2, m2, q3, m3, sets_c (bc_of T3) _ _ _ _ _ _, ⟨own_mono (own_sets (own_on (own_on ho1 hb2) hb3) hlt _ _ _ _) (by omega), own_mono (own_sets (own_on ho2 hb3) (by omega) _ _ _ _) (by omega), own_mono (own_sets ho3 (by omega) _ _ _ _) (by omega), apart_less (s := p) (fun m hm => by have := (ho1.lt m hm).1; omega) hv, apart_less (s := p) (fun m hm => by have := (ho2.lt m hm).1; omega) hv, apart_less (s := p) (fun m hm => by have := (ho3.lt m hm).1; omega) hv⟩, below_sets (bt hbx (bt (Below.refl _ _).drew (bt hd (bt hb2 hb3)))) (by omega) _ _ _ _⟩
theorem tw_pl (c : Cd) (a' : Option Addr) (mc' : Nat) (la' : Option Addr) (lc' : Nat) (ra' : Option Addr) (rc' : Nat) : (c.tw a' mc' la' lc' ra' rc').pl = c.pl := rfl
theorem tw_light {c : Cd} (h : c.Light) (a' : Option Addr) (mc' : Nat) (la' : Option Addr) (lc' : Nat) (ra' : Option Addr) (rc' : Nat) : (c.tw a' mc' la' lc' ra' rc').Light := ⟨h.n, h.m, h.l, h.r, h.t, h.x, h.y⟩

set_option maxHeartbeats 16000000 in
set_option maxRecDepth 20000 in
theorem twinCs_any (a : Option Addr) (n cap : Nat) (cs : List Cd) (w : World) (hA : LiesC w a n cap cs) (hn : n ≤ 20) (hL : ∀ c ∈ cs, c.Light) :
    Calls Tryz.prog 47 #[.slice a n cap] w fun e w' => ∃ (q : Option Addr) (cq : Nat) (ds : List Cd), e = .returned (.slice q n cq) ∧ ds.length = n ∧ OwnC w' w.heap.size (.slice q n cq) ds ∧ ds.map Cd.pl = cs.map Cd.pl ∧ (∀ d ∈ ds, d.Light) ∧ Below w.heap.size w w' := by
  have hle := hA.le
  have hge := hA.ge
  have HLL := hide hL
  clear hL
  go_enter Tryz.func47, Tryz.ntmps47
  go_wp2_with fail
  go_loopw [3, 4] (fun o i wr => ∃ (k : Nat) (ds : List Cd), k ≤ n ∧ i = .int .i64 k ∧ ds.length ≤ k ∧ k ≤ ds.length ∧ Hid (OwnC wr w.heap.size o ds) ∧ Hid (ds.map Cd.pl = (cs.take k).map Cd.pl) ∧ Hid (∀ d ∈ ds, d.Light) ∧ Below w.heap.size w wr) (fun _ i _ => n - (intOf i).toNat)
  case atStart => exact ⟨0, [], Nat.zero_le _, rfl, Nat.le_refl _, Nat.le_refl _, hide ⟨World.ownsRow_nil _ _ _ _, fun c h => by cases h⟩, hide rfl, hide (fun c h => by cases h), Below.refl _ _⟩
  case round =>
    obtain ⟨k, ds, hk, rfl, hd1, hd2, HO, HP, HDL, hbw⟩ := hrel
    by_cases hlt : k < n
    case neg =>
      have hkn : ds.length = n := by omega
      have hOC := unhide HO
      obtain ⟨q, cq, rfl⟩ := own_slice hOC.row
      rw [hkn] at hOC
      have hpl : ds.map Cd.pl = cs.map Cd.pl := by rw [unhide HP, List.take_of_length_le (by omega)]
      have HR := hide (show ∃ (q' : Option Addr) (cq' : Nat) (es : List Cd), Ending.returned (Value.slice q n cq) = .returned (.slice q' n cq') ∧ es.length = n ∧ OwnC wr w.heap.size (.slice q' n cq') es ∧ es.map Cd.pl = cs.map Cd.pl ∧ (∀ d ∈ es, d.Light) ∧ Below w.heap.size w wr from ⟨q, cq, ds, rfl, hkn, hOC, hpl, unhide HDL, hbw⟩)
      rw [hkn]
      clear HO HP HDL hOC hkn hpl hd1 hd2
      go_wp2_with fail
      go_ret
      exact unhide HR
    have hA1 := hA.on hbw
    have hk' : k < cs.length := by omega
    obtain ⟨b, o, ha, hlb, c0, c1, c2, c3, c4, c5⟩ := hA1.row.up hk'
    have hc := hA1.all _ (List.getElem_mem hk')
    have hL := unhide HLL _ (List.getElem_mem hk')
    have HT : Hid (cs.take (k + 1) = cs.take k ++ [cs[k]]) := hide (List.take_succ_eq_append_getElem hk')
    subst ha
    clear hA1
    generalize cs[k] = c at c0 c1 c2 c3 c4 c5 hc hL HT
    have hbx := below_new wr (bxC c)
    have hc0 := hc.on hbx
    have T0 := heap_alloc_new wr (bxC c)
    have hsz : (wr.alloc (bxC c)).heap.size = wr.heap.size + 1 := by simp
    have HV : Hid (∀ m, u3.ownBlock = some m → m < wr.heap.size) := hide (fun m hm => ((unhide HO).row.lt m hm).2)
    have HBw : Hid (w.heap.size ≤ wr.heap.size) := hide hbw.size
    go_upto_region 6 with fail
    clear c0 c1 c2 c3 c4 c5 hlb hc
    generalize wr.alloc (bxC c) = W at hbx hc0 T0 hsz
    obtain ⟨b0, b1, b2, b3, b4, b5⟩ := bc_of T0
    have hm20 : c.m ≤ 20 := hL.m
    have hl40 : c.ll ≤ 20000 := by have := hL.l; omega
    have hr40 : c.rl ≤ 20000 := by have := hL.r; omega
    go_cut [] from 16 to 31 (fun wx => ∃ (a' : Option Addr) (mc' : Nat) (la' : Option Addr) (lc' : Nat) (ra' : Option Addr) (rc' : Nat), BC wx wr.heap.size (c.tw a' mc' la' lc' ra' rc') ∧ (c.tw a' mc' la' lc' ra' rc').Own wx w.heap.size u3 ∧ Below wr.heap.size wr wx)
    case first =>
      have hlt : wr.heap.size < W.heap.size := by omega
      have hD : Below W.heap.size W W.drew := (Below.refl _ _).drew
      go_region_with (first
        | (go_at_call 48; refine (twinO_any c.ra c.rl c.rc c.ys w2 (hc0.y.on (bt hD (bt hb1 hb2))) hr40).mono ?_; rintro e w3 ⟨q3, m3, rfl, ho3, hb3⟩; have T3 := ((bt hD (bt hb1 (bt hb2 hb3))).block _ hlt).trans T0; obtain ⟨f0, f1, f2, f3, f4, f5⟩ := bc_of T3; clear e0 e1 e2 e3 e4 e5 T2; have z1 := Lib.frozen_of_heap T3 1; have z2 := Lib.frozen_of_heap T3 2; have z4 := Lib.frozen_of_heap T3 4; have z5 := Lib.frozen_of_heap T3 5)
        | (go_at_call 48; refine (twinO_any c.la c.ll c.lc c.xs w1 (hc0.x.on (bt hD hb1)) hl40).mono ?_; rintro e w2 ⟨q2, m2, rfl, ho2, hb2⟩; have T2 := ((bt hD (bt hb1 hb2)).block _ hlt).trans T0; obtain ⟨e0, e1, e2, e3, e4, e5⟩ := bc_of T2; clear d0 d1 d2 d3 d4 d5 T1)
        | (go_at_call 70; refine (twinA_any c.n c.a c.m c.mc c.ts W.drew (hc0.t.on hD) hm20).mono ?_; rintro e w1 ⟨q1, m1, rfl, ho1, hb1⟩; have T1 := ((bt hD hb1).block _ hlt).trans T0; obtain ⟨d0, d1, d2, d3, d4, d5⟩ := bc_of T1; clear b0 b1 b2 b3 b4 b5))
      all_goals
        go_wp2_with fail
        go_meet
        exact tw_own rfl (unhide HBw) (unhide HV) hlt hbx ho1 hb1 ho2 hb2 ho3 hb3 T3
    case rest =>
      clear b0 b1 b2 b3 b4 b5 T0 hc0 hbx hsz
      obtain ⟨a', mc', la', lc', ra', rc', hT, hI, hw⟩ := hcut
      have hbo := below_new wc (bxC (c.tw a' mc' la' lc' ra' rc'))
      have hww := bt hw hbo
      have hOC := (unhide HO).on hww
      have hIo := hI.on hbo
      have hbb := bt hbw hww
      have hnew := hide (heap_alloc_new wc (bxC (c.tw a' mc' la' lc' ra' rc')))
      have HOC := hide hOC
      have HIO := hide hIo
      have HBB := hide hbb
      have HPL : Hid ((ds ++ [c.tw a' mc' la' lc' ra' rc']).map Cd.pl = (cs.take (k + 1)).map Cd.pl) := hide (by
        rw [unhide HT, List.map_append, List.map_append, unhide HP]; rfl)
      have HDL2 : Hid (∀ d ∈ ds ++ [c.tw a' mc' la' lc' ra' rc'], d.Light) := hide (fun d hd => by
        rcases List.mem_append.1 hd with h | h
        · exact unhide HDL d h
        · rw [List.mem_singleton.1 h]; exact tw_light hL _ _ _ _ _ _)
      have hdl : ds.length ≤ 100 := by omega
      obtain ⟨c0, c1, c2, c3, c4, c5⟩ := hT
      simp only at c0 c1 c2 c3 c4 c5
      clear HO HP HDL HT HV HBw hbw hL hww hOC hIo hbb hbo hI hw
      go_wp2_with (at_builtin; refine app_c rfl _ _ rfl w.heap.size u3 ds (c.tw a' mc' la' lc' ra' rc') wc.heap.size rfl rfl (unhide HOC).row hnew hdl (unhide HBB).size ?_)
      intro v8 w8 hr8 hg8 h58
      have hr9 : w8.ownsRow w.heap.size 83 6 v8 (ds ++ [c.tw a' mc' la' lc' ra' rc']).length (flatCs (ds ++ [c.tw a' mc' la' lc' ra' rc'])) := by rw [List.length_append]; exact hr8
      have h59 : v8.ownBlock = u3.ownBlock ∨ v8.ownBlock = some (wc.alloc (bxC (c.tw a' mc' la' lc' ra' rc'))).heap.size := by simpa using h58
      have HO8 : Hid (OwnC w8 w.heap.size v8 (ds ++ [c.tw a' mc' la' lc' ra' rc'])) := hide ⟨hr9, fun d hd => by
        rcases List.mem_append.1 hd with h | h
        · exact ((unhide HOC).all d h).beside hg8 h59
        · rw [List.mem_singleton.1 h]; exact (unhide HIO).beside hg8 h59⟩
      have hb8 := (unhide HBB).grown hg8 (unhide HBB).size (fun m hm => ((unhide HOC).row.lt m hm).1)
      have hlen : (ds ++ [c.tw a' mc' la' lc' ra' rc']).length = ds.length + 1 := by simp
      have hl1 : (ds ++ [c.tw a' mc' la' lc' ra' rc']).length ≤ k + 1 := by omega
      have hl2 : k + 1 ≤ (ds ++ [c.tw a' mc' la' lc' ra' rc']).length := by omega
      generalize ds ++ [c.tw a' mc' la' lc' ra' rc'] = es at HO8 HPL HDL2 hl1 hl2
      clear hr8 hr9 hg8 h58 h59 HOC HIO HBB hnew c0 c1 c2 c3 c4 c5 hlen
      go_wp2_with fail
      go_roundw
      case rel => exact ⟨k + 1, es, by omega, by go_num, hl1, hl2, HO8, HPL, HDL2, hb8⟩
      case measure => simp [intOf]; omega
end Go.Proofs.YtcjnhhbcleljmaaGreatDoor.Sb
namespace Go.Proofs.YtcjnhhbcleljmaaGreatDoor.Sb
open Go.RowKit
open V
open Ex (RowO LiesO flatO liesO_own)

theorem own_off {w : World} {base : Nat} {e : TypeId} {size : Nat} {v : Value} {n : Nat} {xs : List Value} (h : w.ownsRow base e size v n xs) {a : Addr} (ha : ∀ m, v.ownBlock = some m → m ≠ a.block) (u : Value) : (w.setCell a u).ownsRow base e size v n xs := by
  obtain ⟨h1, h2⟩ := h
  refine ⟨h1, ?_⟩
  rcases h2 with h2 | ⟨g, cap, cur, hv, hg, hh, r⟩
  · exact Or.inl h2
  · refine Or.inr ⟨g, cap, cur, hv, hg, ?_, r⟩
    have hne : g ≠ a.block := ha g (by rw [hv]; rfl)
    rw [Below.heap_setCell _ _ _ _ hne]
    exact hh
/-- Where a list of twins lies. -/
structure BlkC (v : Value) (cs : List Cd) (P : Nat → Prop) : Prop where
  row : ∀ m, v.ownBlock = some m → P m
  t : ∀ c ∈ cs, ∀ m, (Value.slice c.a c.m c.mc).ownBlock = some m → P m
  x : ∀ c ∈ cs, ∀ m, (Value.slice c.la c.ll c.lc).ownBlock = some m → P m
  y : ∀ c ∈ cs, ∀ m, (Value.slice c.ra c.rl c.rc).ownBlock = some m → P m
theorem BlkC.mono {v : Value} {cs : List Cd} {P Q : Nat → Prop} (h : BlkC v cs P) (hPQ : ∀ m, P m → Q m) : BlkC v cs Q := ⟨fun m hm => hPQ _ (h.row m hm), fun c hc m hm => hPQ _ (h.t c hc m hm), fun c hc m hm => hPQ _ (h.x c hc m hm), fun c hc m hm => hPQ _ (h.y c hc m hm)⟩
theorem OwnC.blk {w : World} {B : Nat} {v : Value} {cs : List Cd} (h : OwnC w B v cs) : BlkC v cs (fun m => B ≤ m ∧ m < w.heap.size) := ⟨h.row.lt, fun c hc => (h.all c hc).t.lt, fun c hc => (h.all c hc).x.lt, fun c hc => (h.all c hc).y.lt⟩
theorem OwnC.set {w : World} {B : Nat} {v : Value} {cs : List Cd} (h : OwnC w B v cs) {a : Addr} (hb : BlkC v cs (fun m => m ≠ a.block)) (u : Value) : OwnC (w.setCell a u) B v cs :=
  ⟨own_off h.row hb.row u, fun c hc => ⟨own_off (h.all c hc).t (hb.t c hc) u, own_off (h.all c hc).x (hb.x c hc) u, own_off (h.all c hc).y (hb.y c hc) u, (h.all c hc).ta, (h.all c hc).xa, (h.all c hc).ya⟩⟩
theorem OwnC.mono {w : World} {B B' : Nat} {v : Value} {cs : List Cd} (h : OwnC w B v cs) (hB : B' ≤ B) : OwnC w B' v cs :=
  ⟨own_mono h.row hB, fun c hc => ⟨own_mono (h.all c hc).t hB, own_mono (h.all c hc).x hB, own_mono (h.all c hc).y hB, (h.all c hc).ta, (h.all c hc).xa, (h.all c hc).ya⟩⟩
/-- Another row of the call's own, in none of these blocks, grows. -/
theorem OwnC.beside {w w' : World} {B : Nat} {v u : Value} {cs : List Cd} (h : OwnC w B v cs) (hg : w.grownBy w' u.ownBlock) (hb : BlkC v cs (fun m => ∀ k, u.ownBlock = some k → m ≠ k)) : OwnC w' B v cs := by
  have ne : ∀ {x : Value}, (∀ m, x.ownBlock = some m → ∀ k, u.ownBlock = some k → m ≠ k) → x.ownBlock = none ∨ x.ownBlock ≠ u.ownBlock := by
    intro x hx
    cases ho : x.ownBlock with
    | none => exact Or.inl rfl
    | some k => exact Or.inr (fun e => hx k ho k e.symm rfl)
  exact ⟨h.row.kept hg (ne hb.row), fun c hc => ⟨(h.all c hc).t.kept hg (ne (hb.t c hc)), (h.all c hc).x.kept hg (ne (hb.x c hc)), (h.all c hc).y.kept hg (ne (hb.y c hc)), (h.all c hc).ta, (h.all c hc).xa, (h.all c hc).ya⟩⟩

theorem twinCs_k (a : Option Addr) (n cap : Nat) (cs : List Cd) (w : World) (hA : LiesC w a n cap cs) (hn : n ≤ 20) (hL : ∀ c ∈ cs, c.Light) (W : World) (hW : Below w.heap.size w W) :
    Calls Tryz.prog 47 #[.slice a n cap] W fun e w' => ∃ (q : Option Addr) (cq : Nat) (ds : List Cd), e = .returned (.slice q n cq) ∧ ds.length = n ∧ OwnC w' W.heap.size (.slice q n cq) ds ∧ ds.map Cd.pl = cs.map Cd.pl ∧ (∀ d ∈ ds, d.Light) ∧ Below W.heap.size W w' := twinCs_any a n cap cs W (hA.on hW) hn hL
/-- What lies in the box of the twin that is being made. -/
abbrev bxQ (n : ByteArray) (p : Int) (c : Value) (z : Value) : Obj := .cells #[.string n, .int .i64 p, c, z] 25

/-- What the first step lays: a box with the twins of the conditions, no acts yet. -/
structure Laid (r : Rz) (W wx : World) (p : Nat) (q : Option Addr) (cq : Nat) (ds : List Cd) : Prop where
  box : BR wx p ⟨r.n, r.p, q, r.cl, cq, ds, none, 0, 0, []⟩
  lo : W.heap.size ≤ p
  len : ds.length = r.cl
  own : OwnC wx W.heap.size (.slice q r.cl cq) ds
  off : BlkC (.slice q r.cl cq) ds (fun m => m ≠ p)
  pl : ds.map Cd.pl = r.cs.map Cd.pl
  light : ∀ d ∈ ds, d.Light
  bel : Below W.heap.size W wx
  fz : wx.frozen? ⟨p, 3, none⟩ = false
theorem way_b {r : Rz} {W w2 : World} {q : Option Addr} {cq : Nat} {ds : List Cd} (hdl : ds.length = r.cl) (hO : OwnC w2 W.heap.size (.slice q r.cl cq) ds) (hpl : ds.map Cd.pl = r.cs.map Cd.pl) (hdL : ∀ d ∈ ds, d.Light) (hbq : Below W.heap.size W w2) :
    Laid r W (w2.alloc (bxQ r.n r.p (.slice q r.cl cq) (.slice none 0 0))) w2.heap.size q cq ds :=
  ⟨br_of (r := ⟨r.n, r.p, q, r.cl, cq, ds, none, 0, 0, []⟩) (heap_alloc_new w2 _), hbq.size, hdl, hO.on (below_new w2 _), hO.blk.mono (fun m h => by have := h.2; omega), hpl, hdL, bt hbq (below_new w2 _), Lib.frozen_of_heap (heap_alloc_new w2 _) 3⟩
theorem way_a {r : Rz} {W w2 : World} {q : Option Addr} {cq : Nat} {ds : List Cd} {z : Obj} (hz : z = bxQ ⟨#[]⟩ 0 (.slice none 0 0) (.slice none 0 0)) (hdl : ds.length = r.cl) (hO : OwnC w2 (W.alloc z).heap.size (.slice q r.cl cq) ds) (hpl : ds.map Cd.pl = r.cs.map Cd.pl) (hdL : ∀ d ∈ ds, d.Light) (hb2 : Below (W.alloc z).heap.size (W.alloc z).drew w2) :
    Laid r W ((((w2.setCell ⟨W.heap.size, 0, none⟩ (.string r.n)).setCell ⟨W.heap.size, 1, none⟩ (.int .i64 r.p)).setCell ⟨W.heap.size, 2, none⟩ (.slice q r.cl cq)).setCell ⟨W.heap.size, 3, none⟩ (.slice none 0 0)) W.heap.size q cq ds := by
  have hs : (W.alloc z).heap.size = W.heap.size + 1 := by simp
  have hoff : BlkC (.slice q r.cl cq) ds (fun m => m ≠ W.heap.size) := hO.blk.mono (fun m h => by have := h.1; omega)
  have yp : w2.heap[W.heap.size]? = some z := (hb2.block W.heap.size (by omega)).trans (heap_alloc_new W z)
  subst hz
  have hbq : Below W.heap.size W w2 := bt (((Below.refl _ _).alloc (Nat.le_refl _) _).drew) hb2
  have g0 : w2.cell? ⟨W.heap.size, 0, none⟩ = some (.string ⟨#[]⟩) := by rw [Lib.cell_of_heap yp]; rfl
  have g1 : (w2.setCell ⟨W.heap.size, 0, none⟩ (.string r.n)).cell? ⟨W.heap.size, 1, none⟩ = some (.int .i64 0) := by
    rw [World.cell?_setCell_other _ _ _ _ (by simp), Lib.cell_of_heap yp]; rfl
  have g2 : ((w2.setCell ⟨W.heap.size, 0, none⟩ (.string r.n)).setCell ⟨W.heap.size, 1, none⟩ (.int .i64 r.p)).cell? ⟨W.heap.size, 2, none⟩ = some (.slice none 0 0) := by
    rw [World.cell?_setCell_other _ _ _ _ (by simp), World.cell?_setCell_other _ _ _ _ (by simp), Lib.cell_of_heap yp]; rfl
  have g3 : (((w2.setCell ⟨W.heap.size, 0, none⟩ (.string r.n)).setCell ⟨W.heap.size, 1, none⟩ (.int .i64 r.p)).setCell ⟨W.heap.size, 2, none⟩ (.slice q r.cl cq)).cell? ⟨W.heap.size, 3, none⟩ = some (.slice none 0 0) := by
    rw [World.cell?_setCell_other _ _ _ _ (by simp), World.cell?_setCell_other _ _ _ _ (by simp), World.cell?_setCell_other _ _ _ _ (by simp), Lib.cell_of_heap yp]; rfl
  refine ⟨⟨?_, ?_, ?_, ?_⟩, Nat.le_refl _, hdl, ((((hO.mono (by omega)).set (a := ⟨W.heap.size, 0, none⟩) hoff _).set (a := ⟨W.heap.size, 1, none⟩) hoff _).set (a := ⟨W.heap.size, 2, none⟩) hoff _).set (a := ⟨W.heap.size, 3, none⟩) hoff _, hoff, hpl, hdL, (((hbq.setCell (p := ⟨W.heap.size, 0, none⟩) (Nat.le_refl _) _).setCell (p := ⟨W.heap.size, 1, none⟩) (Nat.le_refl _) _).setCell (p := ⟨W.heap.size, 2, none⟩) (Nat.le_refl _) _).setCell (p := ⟨W.heap.size, 3, none⟩) (Nat.le_refl _) _, by simp [Lib.frozen_of_heap yp 3]⟩
  · rw [World.cell?_setCell_other _ _ _ _ (by simp), World.cell?_setCell_other _ _ _ _ (by simp), World.cell?_setCell_other _ _ _ _ (by simp), World.cell?_setCell_same _ _ _ g0]
  · rw [World.cell?_setCell_other _ _ _ _ (by simp), World.cell?_setCell_other _ _ _ _ (by simp), World.cell?_setCell_same _ _ _ g1]
  · rw [World.cell?_setCell_other _ _ _ _ (by simp), World.cell?_setCell_same _ _ _ g2]
  · rw [World.cell?_setCell_same _ _ _ g3]
end Go.Proofs.YtcjnhhbcleljmaaGreatDoor.Sb
namespace Go.Proofs.YtcjnhhbcleljmaaGreatDoor.Sb
open Go.RowKit
open V
open Ex (RowO LiesO flatO liesO_own)

/-- An expression's row, the call's own, beside v's block. -/
structure Ez.Own (e : Ez) (w : World) (B : Nat) (v : Value) : Prop where
  o : w.ownsRow B 144 5 (.slice e.a e.l e.c) e.l (flatO e.xs)
  a : Apart (.slice e.a e.l e.c) v
theorem Ez.Own.on {e : Ez} {w w' : World} {B : Nat} {v : Value} (h : e.Own w B v) (hb : Below w.heap.size w w') : e.Own w' B v := ⟨own_on h.o hb, h.a⟩
theorem Ez.Own.beside {e : Ez} {w w' : World} {B : Nat} {v v' : Value} (h : e.Own w B v) (hg : w.grownBy w' v.ownBlock) (h5 : v'.ownBlock = v.ownBlock ∨ v'.ownBlock = some w.heap.size) : e.Own w' B v' :=
  ⟨h.o.kept hg h.a.ne, apart_to h.a h5 (fun m hm => (h.o.lt m hm).2)⟩
def flatE (es : List Ez) : List Value := es.map (fun e => .slice e.a e.l e.c)
theorem flatE_app (xs ys : List Ez) : flatE (xs ++ ys) = flatE xs ++ flatE ys := by simp [flatE]
structure OwnE (w : World) (B : Nat) (v : Value) (es : List Ez) : Prop where
  row : w.ownsRow B 81 1 v es.length (flatE es)
  all : ∀ e ∈ es, e.Own w B v
theorem OwnE.on {w w' : World} {B : Nat} {v : Value} {es : List Ez} (h : OwnE w B v es) (hb : Below w.heap.size w w') : OwnE w' B v es := ⟨own_on h.row hb, fun e he => (h.all e he).on hb⟩
theorem OwnE.mono {w : World} {B B' : Nat} {v : Value} {es : List Ez} (h : OwnE w B v es) (hB : B' ≤ B) : OwnE w B' v es := ⟨own_mono h.row hB, fun e he => ⟨own_mono (h.all e he).o hB, (h.all e he).a⟩⟩
theorem OwnE.lies {w : World} {B n cp : Nat} {q : Option Addr} {es : List Ez} (h : OwnE w B (.slice q n cp) es) : LiesE w q n cp es := by
  rcases h.row.2 with ⟨hv, h0⟩ | ⟨g, cap, cur, hv, _, hg, hc, _, _, ht⟩
  · simp only [Value.slice.injEq] at hv
    exact ⟨Or.inl (List.eq_nil_of_length_eq_zero h0), by omega, by omega, fun _ => hv.2.2, by omega, fun e he => liesO_own (h.all e he).o⟩
  · simp only [Value.slice.injEq] at hv
    obtain ⟨rfl, hn, rfl⟩ := hv
    refine ⟨Or.inr ⟨g, 0, rfl, (Array.getElem?_eq_some_iff.1 hg).1, fun i e he => ?_⟩, by omega, by omega, (fun h => by cases h), by omega, fun e he => liesO_own (h.all e he).o⟩
    have hi : i < es.length := (List.getElem?_eq_some_iff.1 he).1
    have hu : (flatE es)[i]? = some (.slice e.a e.l e.c) := by simp [flatE, he]
    rw [← ht, List.getElem?_take_of_lt (by omega), Array.getElem?_toList] at hu
    rw [Lib.cell_of_heap hg, Nat.zero_add]
    exact hu
/-- An act's rows, the call's own, beside v's block. -/
structure Az.Own (z : Az) (w : World) (B : Nat) (v : Value) : Prop where
  e : OwnE w B (.slice z.a z.m z.mc) z.es
  za : Apart (.slice z.a z.m z.mc) v
  ea : ∀ e ∈ z.es, Apart (.slice e.a e.l e.c) v
theorem Az.Own.on {z : Az} {w w' : World} {B : Nat} {v : Value} (h : z.Own w B v) (hb : Below w.heap.size w w') : z.Own w' B v := ⟨h.e.on hb, h.za, h.ea⟩
theorem Az.Own.beside {z : Az} {w w' : World} {B : Nat} {v v' : Value} (h : z.Own w B v) (hg : w.grownBy w' v.ownBlock) (h5 : v'.ownBlock = v.ownBlock ∨ v'.ownBlock = some w.heap.size) : z.Own w' B v' :=
  ⟨⟨h.e.row.kept hg h.za.ne, fun e he => ⟨(h.e.all e he).o.kept hg (h.ea e he).ne, (h.e.all e he).a⟩⟩, apart_to h.za h5 (fun m hm => (h.e.row.lt m hm).2), fun e he => apart_to (h.ea e he) h5 (fun m hm => ((h.e.all e he).o.lt m hm).2)⟩
abbrev flatZ (z : Az) : List Value := [.int .i64 z.k, .string z.n, .slice z.a z.m z.mc, .int .i64 z.wh]
def flatZs (zs : List Az) : List Value := zs.flatMap flatZ
theorem flatZs_app (xs ys : List Az) : flatZs (xs ++ ys) = flatZs xs ++ flatZs ys := by simp [flatZs]
theorem flatZs_one (z : Az) : flatZs [z] = flatZ z := by simp [flatZs]
theorem flatZs_get (xs : List Az) : ∀ (i : Nat) (x : Az), xs[i]? = some x → ∀ j, j < 4 → (flatZs xs)[i * 4 + j]? = (flatZ x)[j]? := by
  induction xs with
  | nil => intro i x h; simp at h
  | cons y r ih =>
    intro i x h j hj
    rw [show y :: r = [y] ++ r from rfl, flatZs_app, flatZs_one]
    match i with
    | 0 =>
      simp at h; subst h
      rw [List.getElem?_append_left (by simp; omega)]
      simp
    | i + 1 =>
      rw [List.getElem?_append_right (by simp; omega)]
      have := ih i x (by simpa using h) j hj
      rw [← this]
      congr 1
      simp; omega
structure OwnA (w : World) (B : Nat) (v : Value) (zs : List Az) : Prop where
  row : w.ownsRow B 86 4 v zs.length (flatZs zs)
  all : ∀ z ∈ zs, z.Own w B v
theorem OwnA.on {w w' : World} {B : Nat} {v : Value} {zs : List Az} (h : OwnA w B v zs) (hb : Below w.heap.size w w') : OwnA w' B v zs := ⟨own_on h.row hb, fun e he => (h.all e he).on hb⟩
theorem OwnA.lies {w : World} {B n cp : Nat} {q : Option Addr} {zs : List Az} (h : OwnA w B (.slice q n cp) zs) : LiesA w q n cp zs := by
  rcases h.row.2 with ⟨hv, h0⟩ | ⟨g, cap, cur, hv, _, hg, hc, _, _, ht⟩
  · simp only [Value.slice.injEq] at hv
    exact ⟨Or.inl (List.eq_nil_of_length_eq_zero h0), by omega, by omega, fun _ => hv.2.2, by omega, fun e he => (h.all e he).e.lies⟩
  · simp only [Value.slice.injEq] at hv
    obtain ⟨rfl, hn, rfl⟩ := hv
    refine ⟨Or.inr ⟨g, 0, rfl, (Array.getElem?_eq_some_iff.1 hg).1, fun i z hz => ?_⟩, by omega, by omega, (fun h => by cases h), by omega, fun e he => (h.all e he).e.lies⟩
    have hi : i < zs.length := (List.getElem?_eq_some_iff.1 hz).1
    have key : ∀ j (u : Value), j < 4 → (flatZ z)[j]? = some u → w.cell? ⟨g, 0 + i * 4 + j, none⟩ = some u := by
      intro j u hj hu
      rw [← flatZs_get zs i z hz j hj, ← ht, List.getElem?_take_of_lt (by omega), Array.getElem?_toList] at hu
      rw [Lib.cell_of_heap hg, Nat.zero_add]
      exact hu
    exact ⟨key 0 _ (by omega) rfl, key 1 _ (by omega) rfl, key 2 _ (by omega) rfl, key 3 _ (by omega) rfl⟩
theorem oneCell_z (z : Az) : ∀ u ∈ flatZ z, u.oneCell' = true := by
  intro u hu
  simp only [flatZ, List.mem_cons, List.not_mem_nil, or_false] at hu
  rcases hu with rfl | rfl | rfl | rfl <;> rfl
theorem cells_z {W : World} {b : Nat} {z : Az} (h : W.heap[b]? = some (bxZ z)) : ∀ (j : Nat) (u : Value), (flatZ z)[j]? = some u → W.cell? ((⟨b, 0, none⟩ : Addr).add j) = some u := by
  intro j u hu
  rw [WideShapes.add_plain, Lib.cell_of_heap h]
  match j, hu with
  | 0, hu => simpa using hu
  | 1, hu => simpa using hu
  | 2, hu => simpa using hu
  | 3, hu => simpa using hu
  | j + 4, hu => simp at hu
theorem infoZ : (Tryz.prog.info? 86).map (fun i => (i.zero, i.size, i.bytes)) = some (some (.agg #[.int .i64 0, .string ⟨#[]⟩, .slice none 0 0, .int .i64 0]), 4, 56) := by kernel_rfl
theorem infoE : (Tryz.prog.info? 81).map (fun i => (i.zero, i.size, i.bytes)) = some (some (.slice none 0 0), 1, 24) := by kernel_rfl
theorem app_z {w : World} {ops : Array Oper} {rest : List Oper} {o : Oper} {a : Act} {Q : Exit → Act → World → Prop} (hgd : o.guard = none) (s x : Operand)
    (ho : o.op = .call { callee := .builtin .append, args := #[s, x], argTypes := #[23, 23] }) (B : Nat) (v : Value) (zs : List Az) (z : Az) (nb : Nat)
    (hs : a.eval s = v) (hx : a.eval x = .slice (some ⟨nb, 0, none⟩) 1 1) (hown : w.ownsRow B 86 4 v zs.length (flatZs zs)) (hnew : Hid (w.heap[nb]? = some (bxZ z))) (hlen : zs.length ≤ 100) (hB : B ≤ w.heap.size)
    (h : ∀ v' w', w'.ownsRow B 86 4 v' (zs ++ [z]).length (flatZs (zs ++ [z])) → w.grownBy w' v.ownBlock → (v'.ownBlock = v.ownBlock ∨ v'.ownBlock = some w.heap.size) → wpList Tryz.prog ops Q rest (a.put o.dst v') w') :
    wpList Tryz.prog ops Q (o :: rest) a w := by
  obtain ⟨i0, hi, hz0, hz1, hz2⟩ := info_parts infoZ
  refine wpList_append_own_at w hgd s x 23 ho B 86 i0 (.agg #[.int .i64 0, .string ⟨#[]⟩, .slice none 0 0, .int .i64 0]) 4 56 Tryz.underlying23 hi hz0 hz1 hz2 rfl (by decide) v zs.length (flatZs zs) hs hown ⟨nb, 0, none⟩ 1 1 (flatZ z) hx rfl (cells_z (unhide hnew)) (oneCell_z z) (by unfold maxLen; omega) (by omega) hB ?_
  intro v' w' h1 h2 _ h4
  refine h v' w' ?_ h2 h4
  rw [flatZs_app, flatZs_one, List.length_append]
  exact h1
theorem app_e {w : World} {ops : Array Oper} {rest : List Oper} {o : Oper} {a : Act} {Q : Exit → Act → World → Prop} (hgd : o.guard = none) (s x : Operand)
    (ho : o.op = .call { callee := .builtin .append, args := #[s, x], argTypes := #[84, 84] }) (B : Nat) (v : Value) (es : List Ez) (e : Ez) (nb : Nat)
    (hs : a.eval s = v) (hx : a.eval x = .slice (some ⟨nb, 0, none⟩) 1 1) (hown : w.ownsRow B 81 1 v es.length (flatE es)) (hnew : Hid (w.heap[nb]? = some (.cells #[.slice e.a e.l e.c] 81))) (hlen : es.length ≤ 100) (hB : B ≤ w.heap.size)
    (h : ∀ v' w', w'.ownsRow B 81 1 v' (es ++ [e]).length (flatE (es ++ [e])) → w.grownBy w' v.ownBlock → (v'.ownBlock = v.ownBlock ∨ v'.ownBlock = some w.heap.size) → wpList Tryz.prog ops Q rest (a.put o.dst v') w') :
    wpList Tryz.prog ops Q (o :: rest) a w := by
  obtain ⟨i0, hi, hz0, hz1, hz2⟩ := info_parts infoE
  refine wpList_append_own_at w hgd s x 84 ho B 81 i0 (.slice none 0 0) 1 24 Tryz.underlying84 hi hz0 hz1 hz2 rfl (by decide) v es.length (flatE es) hs hown ⟨nb, 0, none⟩ 1 1 [.slice e.a e.l e.c] hx rfl (fun j u hu => ?_) (fun u hu => ?_) (by unfold maxLen; omega) (by omega) hB ?_
  · rw [WideShapes.add_plain, Lib.cell_of_heap (unhide hnew)]
    match j, hu with
    | 0, hu => simpa using hu
    | j + 1, hu => simp at hu
  · rw [List.mem_singleton.1 hu]; rfl
  · intro v' w' h1 h2 _ h4
    refine h v' w' ?_ h2 h4
    rw [flatE_app, List.length_append]
    exact h1
end Go.Proofs.YtcjnhhbcleljmaaGreatDoor.Sb
namespace Go.Proofs.YtcjnhhbcleljmaaGreatDoor.Sb
open Go.RowKit
open V
open Ex (RowO LiesO flatO liesO_own)

/-- append at a step of a region that draws its order: where the new slice lies, too. -/
theorem step_append_at {P : Program} {w : World} {ops : Array Oper} {o : Oper} {a : Act} {K : Act → World → Prop} {Q : Exit → Act → World → Prop} {E : Prop} (hgd : o.guard = none) (s x : Operand) (t : TypeId)
    (ho : o.op = .call { callee := .builtin .append, args := #[s, x], argTypes := #[t, t] })
    (base : Nat) (e : TypeId) (i : TypeInfo) (z : Value) (size bytes : Nat) (ht : P.underlying t = some (.slice e)) (hi : P.info? e = some i) (hz : i.zero = some z)
    (hsize : i.size = size) (hby : i.bytes = bytes) (hzs : z.cells.size = size) (hsz : 0 < size)
    (v : Value) (n : Nat) (xs : List Value) (hs : a.eval s = v) (hown : w.ownsRow base e size v n xs)
    (ad : Addr) (m c : Nat) (news : List Value) (hx : a.eval x = .slice (some ad) m c) (hl : news.length = m * size) (hnews : ∀ j u, news[j]? = some u → w.cell? (ad.add j) = some u) (h1 : ∀ u ∈ news, u.oneCell' = true)
    (h63 : n + m ≤ maxLen) (hbytes : (n + m) * bytes ≤ 140737488355328) (hbase : base ≤ w.heap.size)
    (h : ∀ v' w', w'.ownsRow base e size v' (n + m) (xs ++ news) → w.grownBy w' v.ownBlock → (v'.ownBlock = v.ownBlock ∨ v'.ownBlock = some w.heap.size) → K (a.put o.dst v') w') :
    if Region.wanted o (yielded ops a.tmps) = true then Oper.wp P o a w K Q else E := by
  have hw : Region.wanted o (yielded ops a.tmps) = true := by simp [Region.wanted, hgd]
  rw [if_pos hw]
  obtain ⟨v', w', hr, h2, h3, _, h5⟩ := run_append_own_at (P := P) w base t o.type e i z size bytes ht hi hz hsize hby hzs hsz v n xs hown ad m c news hl hnews h1 h63 hbytes hbase
  unfold Oper.wp execOp
  simp only [ho, resolve, invoke, builtin, Sem.run_bind, Sem.run_pure, Result.andThen_ok, List.map_toArray, List.map_cons, List.map_nil, hs, hx, hr]
  exact h v' w' h2 h3 h5

/-- An act that is being made: its box. -/
structure Xc (W : World) (b : Nat) (z : Az) (u : Value) : Prop where
  c0 : W.cell? ⟨b, 0, none⟩ = some (.int .i64 z.k)
  c1 : W.cell? ⟨b, 1, none⟩ = some (.string z.n)
  c2 : W.cell? ⟨b, 2, none⟩ = some u
  c3 : W.cell? ⟨b, 3, none⟩ = some (.int .i64 z.wh)
  fz : W.frozen? ⟨b, 2, none⟩ = false
theorem xc_new (wz : World) (z : Az) : Xc (wz.alloc (.cells #[.int .i64 z.k, .string z.n, .slice none 0 0, .int .i64 z.wh] 86)) wz.heap.size z (.slice none 0 0) :=
  have h := heap_alloc_new wz (.cells #[.int .i64 z.k, .string z.n, .slice none 0 0, .int .i64 z.wh] 86)
  ⟨by rw [Lib.cell_of_heap h]; rfl, by rw [Lib.cell_of_heap h]; rfl, by rw [Lib.cell_of_heap h]; rfl, by rw [Lib.cell_of_heap h]; rfl, Lib.frozen_of_heap h 2⟩
theorem Xc.low {W w8 : World} {b s : Nat} {z : Az} {u : Value} (h : Xc W b z u) (hb : Below s W w8) (hs : b < s) : Xc w8 b z u :=
  ⟨(hb.cell (p := ⟨b, 0, none⟩) hs).trans h.c0, (hb.cell (p := ⟨b, 1, none⟩) hs).trans h.c1, (hb.cell (p := ⟨b, 2, none⟩) hs).trans h.c2, (hb.cell (p := ⟨b, 3, none⟩) hs).trans h.c3, (hb.frozen (p := ⟨b, 2, none⟩) hs).trans h.fz⟩
theorem Xc.set {W : World} {b : Nat} {z : Az} {u : Value} (h : Xc W b z u) (v : Value) : Xc (W.setCell ⟨b, 2, none⟩ v) b z v :=
  ⟨by rw [World.cell?_setCell_other _ _ _ _ (by simp)]; exact h.c0, by rw [World.cell?_setCell_other _ _ _ _ (by simp)]; exact h.c1, by rw [World.cell?_setCell_same _ _ _ h.c2], by rw [World.cell?_setCell_other _ _ _ _ (by simp)]; exact h.c3, by rw [World.frozen?_setCell]; exact h.fz⟩
theorem OwnE.more {wr w7 w9 : World} {s1 : Nat} {u v' : Value} {es : List Ez} {y : Ez} {q7 : Option Addr} {c7 : Nat} (HE : OwnE wr s1 u es) (hs : s1 ≤ wr.heap.size) (h77 : Below wr.heap.size wr w7) (ho7 : w7.ownsRow wr.heap.size 144 5 (.slice q7 y.l c7) y.l (flatO y.xs))
    (hr9 : w9.ownsRow s1 81 1 v' (es.length + 1) (flatE es ++ [.slice q7 y.l c7])) (hg9 : (w7.alloc (.cells #[.slice q7 y.l c7] 81)).grownBy w9 u.ownBlock) (h59 : v'.ownBlock = u.ownBlock ∨ v'.ownBlock = some (w7.alloc (.cells #[.slice q7 y.l c7] 81)).heap.size) {a : Addr} (ha : a.block < s1) (x : Value) :
    OwnE (w9.setCell a x) s1 v' (es ++ [⟨q7, y.l, c7, y.xs⟩]) := by
  have h78 := bt h77 (below_new w7 (.cells #[.slice q7 y.l c7] 81))
  refine ⟨ownsRow_setCell_below (by rw [List.length_append, flatE_app]; exact hr9) ha x, fun e he => ?_⟩
  have key : e.Own w9 s1 v' := by
    rcases List.mem_append.1 he with h | h
    · exact ((HE.all e h).on h78).beside hg9 h59
    · rw [List.mem_singleton.1 h]
      refine Ez.Own.beside (v := u) ⟨own_mono (own_on ho7 (below_new w7 _)) hs, apart_less (s := wr.heap.size) (fun m hm => (ho7.lt m hm).1) (fun m hm => (HE.row.lt m hm).2)⟩ hg9 h59
  exact ⟨ownsRow_setCell_below key.o ha x, key.a⟩

/-- The twin that is being made: its box. -/
structure Oc (W : World) (p : Nat) (n : ByteArray) (i : Int) (c v : Value) : Prop where
  c0 : W.cell? ⟨p, 0, none⟩ = some (.string n)
  c1 : W.cell? ⟨p, 1, none⟩ = some (.int .i64 i)
  c2 : W.cell? ⟨p, 2, none⟩ = some c
  c3 : W.cell? ⟨p, 3, none⟩ = some v
  fz : W.frozen? ⟨p, 3, none⟩ = false
theorem Oc.low {W w8 : World} {p s : Nat} {n : ByteArray} {i : Int} {c v : Value} (h : Oc W p n i c v) (hb : Below s W w8) (hs : p < s) : Oc w8 p n i c v :=
  ⟨(hb.cell (p := ⟨p, 0, none⟩) hs).trans h.c0, (hb.cell (p := ⟨p, 1, none⟩) hs).trans h.c1, (hb.cell (p := ⟨p, 2, none⟩) hs).trans h.c2, (hb.cell (p := ⟨p, 3, none⟩) hs).trans h.c3, (hb.frozen (p := ⟨p, 3, none⟩) hs).trans h.fz⟩
theorem Oc.set {W : World} {p : Nat} {n : ByteArray} {i : Int} {c v : Value} (h : Oc W p n i c v) (x : Value) : Oc (W.setCell ⟨p, 3, none⟩ x) p n i c x :=
  ⟨by rw [World.cell?_setCell_other _ _ _ _ (by simp)]; exact h.c0, by rw [World.cell?_setCell_other _ _ _ _ (by simp)]; exact h.c1, by rw [World.cell?_setCell_other _ _ _ _ (by simp)]; exact h.c2, by rw [World.cell?_setCell_same _ _ _ h.c3], by rw [World.frozen?_setCell]; exact h.fz⟩

theorem Az.Own.set_below {z : Az} {w : World} {B : Nat} {v : Value} (h : z.Own w B v) {a : Addr} (ha : a.block < B) (x : Value) : z.Own (w.setCell a x) B v :=
  ⟨⟨ownsRow_setCell_below h.e.row ha x, fun e he => ⟨ownsRow_setCell_below (h.e.all e he).o ha x, (h.e.all e he).a⟩⟩, h.za, h.ea⟩
theorem OwnA.set_below {w : World} {B : Nat} {v : Value} {zs : List Az} (h : OwnA w B v zs) {a : Addr} (ha : a.block < B) (x : Value) : OwnA (w.setCell a x) B v zs := ⟨ownsRow_setCell_below h.row ha x, fun z hz => (h.all z hz).set_below ha x⟩
theorem OwnA.more {wz wr w9 : World} {B s : Nat} {v v' : Value} {zs : List Az} {z' : Az} (HA : OwnA wz B v zs) (hs : wz.heap.size ≤ s) (hby : Below wz.heap.size wz wr) (hE : OwnE wr s (.slice z'.a z'.m z'.mc) z'.es) (hB : B ≤ s)
    (hr9 : w9.ownsRow B 86 4 v' (zs ++ [z']).length (flatZs (zs ++ [z']))) (hg9 : (wr.alloc (bxZ z')).grownBy w9 v.ownBlock) (h59 : v'.ownBlock = v.ownBlock ∨ v'.ownBlock = some (wr.alloc (bxZ z')).heap.size) {a : Addr} (ha : a.block < B) (x : Value) : OwnA (w9.setCell a x) B v' (zs ++ [z']) := by
  have hv : ∀ m, v.ownBlock = some m → m < s := fun m hm => Nat.lt_of_lt_of_le (HA.row.lt m hm).2 hs
  refine ⟨ownsRow_setCell_below hr9 ha x, fun c hc => ?_⟩
  rcases List.mem_append.1 hc with h | h
  · exact ((((HA.all c h).on hby).on (below_new wr (bxZ z'))).beside hg9 h59).set_below ha x
  · rw [List.mem_singleton.1 h]
    exact (Az.Own.beside (v := v) ⟨(hE.mono hB).on (below_new wr (bxZ z')), apart_less (s := s) (fun m hm => (hE.row.lt m hm).1) hv, fun e he => apart_less (s := s) (fun m hm => ((hE.all e he).o.lt m hm).1) hv⟩ hg9 h59).set_below ha x

/-- A twin of a rule: the same in plain words, all its rows the call's own; those of the conditions lie below B, those of the acts from B on. -/
structure Twin (r s : Rz) (B : Nat) (w w' : World) : Prop where
  n : s.n = r.n
  p : s.p = r.p
  pl : s.pl = r.pl
  light : s.Light
  len : s.cs.length = s.cl
  c : OwnC w' w.heap.size (.slice s.ca s.cl s.cc) s.cs
  a : OwnA w' B (.slice s.aa s.al s.ac) s.zs
  low : BlkC (.slice s.ca s.cl s.cc) s.cs (fun m => m < B)
  lo : w.heap.size ≤ B
  bel : Below w.heap.size w w'
theorem Twin.lies {r s : Rz} {B : Nat} {w w' : World} (h : Twin r s B w w') : s.In w' := by
  have hc := h.c
  rw [← h.len] at hc
  have := hc.lies
  rw [h.len] at this
  exact ⟨this, h.a.lies⟩

theorem set_four {W : World} {b : Nat} {a0 a1 a2 a3 : Value} (x0 x1 x2 x3 : Value) (h0 : W.cell? ⟨b, 0, none⟩ = some a0) (h1 : W.cell? ⟨b, 1, none⟩ = some a1) (h2 : W.cell? ⟨b, 2, none⟩ = some a2) (h3 : W.cell? ⟨b, 3, none⟩ = some a3) :
    ((((W.setCell ⟨b, 0, none⟩ x0).setCell ⟨b, 1, none⟩ x1).setCell ⟨b, 2, none⟩ x2).setCell ⟨b, 3, none⟩ x3).cell? ⟨b, 0, none⟩ = some x0 ∧ ((((W.setCell ⟨b, 0, none⟩ x0).setCell ⟨b, 1, none⟩ x1).setCell ⟨b, 2, none⟩ x2).setCell ⟨b, 3, none⟩ x3).cell? ⟨b, 1, none⟩ = some x1 ∧ ((((W.setCell ⟨b, 0, none⟩ x0).setCell ⟨b, 1, none⟩ x1).setCell ⟨b, 2, none⟩ x2).setCell ⟨b, 3, none⟩ x3).cell? ⟨b, 2, none⟩ = some x2 ∧ ((((W.setCell ⟨b, 0, none⟩ x0).setCell ⟨b, 1, none⟩ x1).setCell ⟨b, 2, none⟩ x2).setCell ⟨b, 3, none⟩ x3).cell? ⟨b, 3, none⟩ = some x3 := by
  have g1 : (W.setCell ⟨b, 0, none⟩ x0).cell? ⟨b, 1, none⟩ = some a1 := by rw [World.cell?_setCell_other _ _ _ _ (by simp)]; exact h1
  have g2 : ((W.setCell ⟨b, 0, none⟩ x0).setCell ⟨b, 1, none⟩ x1).cell? ⟨b, 2, none⟩ = some a2 := by rw [World.cell?_setCell_other _ _ _ _ (by simp), World.cell?_setCell_other _ _ _ _ (by simp)]; exact h2
  have g3 : (((W.setCell ⟨b, 0, none⟩ x0).setCell ⟨b, 1, none⟩ x1).setCell ⟨b, 2, none⟩ x2).cell? ⟨b, 3, none⟩ = some a3 := by rw [World.cell?_setCell_other _ _ _ _ (by simp), World.cell?_setCell_other _ _ _ _ (by simp), World.cell?_setCell_other _ _ _ _ (by simp)]; exact h3
  refine ⟨?_, ?_, ?_, ?_⟩
  · rw [World.cell?_setCell_other _ _ _ _ (by simp), World.cell?_setCell_other _ _ _ _ (by simp), World.cell?_setCell_other _ _ _ _ (by simp), World.cell?_setCell_same _ _ _ h0]
  · rw [World.cell?_setCell_other _ _ _ _ (by simp), World.cell?_setCell_other _ _ _ _ (by simp), World.cell?_setCell_same _ _ _ g1]
  · rw [World.cell?_setCell_other _ _ _ _ (by simp), World.cell?_setCell_same _ _ _ g2]
  · rw [World.cell?_setCell_same _ _ _ g3]

theorem cells_e {W : World} {b : Nat} {v : Value} (h : W.heap[b]? = some (.cells #[v] 81)) : ∀ (j : Nat) (u : Value), ([v] : List Value)[j]? = some u → W.cell? ((⟨b, 0, none⟩ : Addr).add j) = some u := by
  intro j u hu
  rw [WideShapes.add_plain, Lib.cell_of_heap h]
  match j, hu with
  | 0, hu => simpa using hu
  | j + 1, hu => simp at hu

set_option maxHeartbeats 8000000 in
set_option maxRecDepth 20000 in
theorem twinR_any (r : Rz) (w : World) (hr : r.In w) (hL : r.Light) :
    Calls Tryz.prog 10 #[.agg #[.string r.n, .int .i64 r.p, .slice r.ca r.cl r.cc, .slice r.aa r.al r.ac]] w fun e w' => ∃ (s : Rz) (B : Nat), e = .returned (.agg #[.string s.n, .int .i64 s.p, .slice s.ca s.cl s.cc, .slice s.aa s.al s.ac]) ∧ Twin r s B w w' := by
  have hb0 := below_new w (bxR r)
  have hb1 : Below w.heap.size w ((w.alloc (bxR r)).alloc (bxQ ⟨#[]⟩ 0 (.slice none 0 0) (.slice none 0 0))) := hb0.alloc (by simp) _
  have T0 : BR _ _ r := br_of (heap_alloc_new w (bxR r))
  have T1 := T0.on (below_new (w.alloc (bxR r)) (bxQ ⟨#[]⟩ 0 (.slice none 0 0) (.slice none 0 0)))
  have hr1 := hr.on hb1
  have hCL := hL.cs
  have hcl := hL.c
  clear hb0 T0 hr
  go_enter Tryz.func10, Tryz.ntmps10
  go_upto_region 1 with fail
  have hRB : ((w.alloc (bxR r)).alloc (bxQ ⟨#[]⟩ 0 (.slice none 0 0) (.slice none 0 0))).heap[w.heap.size + 1]? = some (bxQ ⟨#[]⟩ 0 (.slice none 0 0) (.slice none 0 0)) := by
    have h := heap_alloc_new (w.alloc (bxR r)) (bxQ ⟨#[]⟩ 0 (.slice none 0 0) (.slice none 0 0))
    have e : (w.alloc (bxR r)).heap.size = w.heap.size + 1 := by simp
    rw [e] at h
    exact h
  have hW : ((w.alloc (bxR r)).alloc (bxQ ⟨#[]⟩ 0 (.slice none 0 0) (.slice none 0 0))).heap.size = w.heap.size + 2 := by simp
  generalize (w.alloc (bxR r)).alloc (bxQ ⟨#[]⟩ 0 (.slice none 0 0) (.slice none 0 0)) = W at hb1 T1 hr1 hW hRB
  have HRB := hide hRB
  clear hRB
  have HW := hide hW
  have hlW : w.heap.size < W.heap.size := by omega
  have hn1 : W.heap.size ≠ w.heap.size := by omega
  have hn2 : w.heap.size ≠ W.heap.size := by omega
  clear hW
  go_cut [3] from 7 to 14 (fun s3 wx => ∃ (p : Nat) (q : Option Addr) (cq : Nat) (ds : List Cd), s3 = .pointer (some ⟨p, 0, none⟩) ∧ Laid r W wx p q cq ds)
  case first =>
    obtain ⟨c0, c1, c2, c3⟩ := T1
    have hC := hr1.c
    have hba : Below W.heap.size W ((W.alloc (bxQ ⟨#[]⟩ 0 (.slice none 0 0) (.slice none 0 0))).drew) := ((Below.refl _ _).alloc (Nat.le_refl _) _).drew
    go_region_held3 (fun w' => w'.cell? ⟨w.heap.size, 0, none⟩ = some (.string r.n) ∧ w'.cell? ⟨w.heap.size, 1, none⟩ = some (.int .i64 r.p) ∧ w'.cell? ⟨w.heap.size, 2, none⟩ = some (.slice r.ca r.cl r.cc)) (first | go_keep | (refine ⟨?_, ?_, ?_⟩ <;> (repeat (rw [World.cell?_setCell_other _ _ _ _ (by simp [hn1, hn2])])) <;> assumption)) (first
      | (go_at_call 47; refine (twinCs_k r.ca r.cl r.cc r.cs W hC hcl hCL ((W.alloc (bxQ ⟨#[]⟩ 0 (.slice none 0 0) (.slice none 0 0))).drew) hba).mono ?_; rintro e w2 ⟨q, cq, ds, rfl, hdl, hO, hpl, hdL, hb2⟩; have hbq := bt hba hb2; have y0 := (hbq.cell (cell_lt c0)).trans c0; have y1 := (hbq.cell (cell_lt c1)).trans c1; have y2 := (hbq.cell (cell_lt c2)).trans c2; have yp := (hb2.block W.heap.size (by show W.heap.size < (W.alloc _).heap.size; simp)).trans (heap_alloc_new W (bxQ ⟨#[]⟩ 0 (.slice none 0 0) (.slice none 0 0))); have z0 := Lib.frozen_of_heap yp 0; have z1 := Lib.frozen_of_heap yp 1; have z2 := Lib.frozen_of_heap yp 2; have z3 := Lib.frozen_of_heap yp 3;  obtain ⟨f0, f1, f2, f3⟩ := br_of (r := ⟨⟨#[]⟩, 0, none, 0, 0, [], none, 0, 0, []⟩) yp)
      | (go_at_call 47; refine (twinCs_k r.ca r.cl r.cc r.cs W hC hcl hCL W.drew (Below.refl _ _).drew).mono ?_; rintro e w2 ⟨q, cq, ds, rfl, hdl, hO, hpl, hdL, hb2⟩; have hbq := bt (Below.refl _ _).drew hb2; have y0 := (hbq.cell (cell_lt c0)).trans c0; have y1 := (hbq.cell (cell_lt c1)).trans c1; have y2 := (hbq.cell (cell_lt c2)).trans c2))
    all_goals
      go_wp2_with fail
      go_meet
      first
        | exact ⟨_, q, cq, ds, rfl, way_a rfl hdl hO hpl hdL hb2⟩
        | exact ⟨_, q, cq, ds, rfl, way_b hdl hO hpl hdL hbq⟩
  case rest =>
    obtain ⟨p, q, cq, ds, rfl, hD⟩ := hcut
    have hs0 : p < wc.heap.size := cell_lt hD.box.c0
    have hbl : BlkC (.slice q r.cl cq) ds (fun m => m < wc.heap.size) := hD.own.blk.mono (fun m h => h.2)
    have HOff := hide hD.off
    have HBl := hide hbl
    have HPl := hide hD.pl
    have HLi := hide hD.light
    have HLen := hide hD.len
    have hlo := hD.lo
    have hbx := hide hD.box
    have hfz := hide hD.fz
    have hown := hide hD.own
    have hbel := hD.bel
    have hal20 := hL.a
    have hLz := hL.zs
    have HCC := hide hcl
    have HLn := hide hL.n
    clear hcl hCL hL hbl hD
    go_wp2_with fail
    go_loopw [4] (fun i wr => ∃ (k : Nat) (zs : List Az) (v : Value), k ≤ r.al ∧ i = .int .i64 k ∧ zs.length ≤ k ∧ k ≤ zs.length ∧ Hid (Oc wr p r.n r.p (.slice q r.cl cq) v) ∧ Hid (OwnC wr W.heap.size (.slice q r.cl cq) ds) ∧ Hid (OwnA wr wc.heap.size v zs) ∧ Hid (zs.map Az.pl = (r.zs.take k).map Az.pl) ∧ Hid (∀ z ∈ zs, z.Light) ∧ wc.heap.size ≤ wr.heap.size ∧ Below W.heap.size W wr) (fun i _ => r.al - (intOf i).toNat)
    case atStart => exact ⟨0, [], .slice none 0 0, Nat.zero_le _, rfl, Nat.le_refl _, Nat.le_refl _, hide ⟨(unhide hbx).c0, (unhide hbx).c1, (unhide hbx).c2, (unhide hbx).c3, unhide hfz⟩, hown, hide ⟨World.ownsRow_nil _ _ _ _, fun z h => by cases h⟩, hide rfl, hide (fun z h => by cases h), Nat.le_refl _, hbel⟩
    case round =>
      obtain ⟨k, zs, v, hk, rfl, hz1, hz2, HB, HC, HA, HP, HZL, hsz, hbw⟩ := hrel
      obtain ⟨wz, rfl⟩ : ∃ x, x = wr := ⟨_, rfl⟩
      have hr2 := hr1.on hbw
      obtain ⟨c0, c1, c2, c3⟩ := T1.on hbw
      by_cases hlt : k < r.al
      case neg =>
        obtain ⟨va, vc, rfl⟩ := own_slice (unhide HA).row
        obtain ⟨o0, o1, o2, o3, -⟩ := unhide HB
        have hp1 : w.heap.size + 1 < W.heap.size := by have := unhide HW; omega
        have yp := (hbw.block (w.heap.size + 1) hp1).trans (unhide HRB)
        have f0 := Lib.frozen_of_heap yp 0
        have f1 := Lib.frozen_of_heap yp 1
        have f2 := Lib.frozen_of_heap yp 2
        have f3 := Lib.frozen_of_heap yp 3
        obtain ⟨q0, q1, q2, q3⟩ := br_of (r := ⟨⟨#[]⟩, 0, none, 0, 0, [], none, 0, 0, []⟩) yp
        have hoff : BlkC (.slice q r.cl cq) ds (fun m => m ≠ w.heap.size + 1) := (unhide HC).blk.mono (fun m h => by have := h.1; omega)
        have hpB : w.heap.size + 1 < wc.heap.size := by omega
        have hC4 := ((((unhide HC).set (a := ⟨w.heap.size + 1, 0, none⟩) hoff (.string r.n)).set (a := ⟨w.heap.size + 1, 1, none⟩) hoff (.int .i64 r.p)).set (a := ⟨w.heap.size + 1, 2, none⟩) hoff (.slice q r.cl cq)).set (a := ⟨w.heap.size + 1, 3, none⟩) hoff (.slice va zs.length vc)
        have hA4 := ((((unhide HA).set_below (a := ⟨w.heap.size + 1, 0, none⟩) hpB (.string r.n)).set_below (a := ⟨w.heap.size + 1, 1, none⟩) hpB (.int .i64 r.p)).set_below (a := ⟨w.heap.size + 1, 2, none⟩) hpB (.slice q r.cl cq)).set_below (a := ⟨w.heap.size + 1, 3, none⟩) hpB (.slice va zs.length vc)
        have hb4 := ((((bt hb1 hbw).setCell (p := ⟨w.heap.size + 1, 0, none⟩) (Nat.le_succ _) (.string r.n)).setCell (p := ⟨w.heap.size + 1, 1, none⟩) (Nat.le_succ _) (.int .i64 r.p)).setCell (p := ⟨w.heap.size + 1, 2, none⟩) (Nat.le_succ _) (.slice q r.cl cq)).setCell (p := ⟨w.heap.size + 1, 3, none⟩) (Nat.le_succ _) (.slice va zs.length vc)
        have hka : k = r.al := by omega
        have hpl : zs.map Az.pl = r.zs.map Az.pl := by
          rw [unhide HP, List.take_of_length_le (by have := hr1.a.ge; omega)]
        have HR := hide (show ∃ (s : Rz) (B : Nat), Ending.returned (.agg #[.string r.n, .int .i64 r.p, .slice q r.cl cq, .slice va zs.length vc]) = .returned (.agg #[.string s.n, .int .i64 s.p, .slice s.ca s.cl s.cc, .slice s.aa s.al s.ac]) ∧ Twin r s B w ((((wz.setCell ⟨w.heap.size + 1, 0, none⟩ (.string r.n)).setCell ⟨w.heap.size + 1, 1, none⟩ (.int .i64 r.p)).setCell ⟨w.heap.size + 1, 2, none⟩ (.slice q r.cl cq)).setCell ⟨w.heap.size + 1, 3, none⟩ (.slice va zs.length vc)) from
          ⟨⟨r.n, r.p, q, r.cl, cq, ds, va, zs.length, vc, zs⟩, wc.heap.size, rfl, rfl, rfl, by
            unfold Rz.pl
            simp only
            rw [unhide HPl, hpl], ⟨unhide HLn, unhide HCC, by show zs.length ≤ 20; omega, unhide HLi, unhide HZL⟩, unhide HLen, hC4.mono (by omega), hA4, unhide HBl, by have := hbel.size; omega, hb4⟩)
        clear HOff HC HA HB HPl HLi HLen HBl HCC HP HZL hC4 hA4 hb4 hpl hka hoff hbx hown hfz HLn
        go_wp2_with fail
        obtain ⟨y0, y1, y2, y3⟩ := set_four (.string r.n) (.int .i64 r.p) (.slice q r.cl cq) (.slice va zs.length vc) q0 q1 q2 q3
        try simp only [Exit.inBlock, Exit.then]
        refine bodyPost_ret (v := .agg #[.string r.n, .int .i64 r.p, .slice q r.cl cq, .slice va zs.length vc]) (by simp [results, Tryz.results10, go_sem, y0, y1, y2, y3]) rfl ?_
        obtain ⟨s, B, h1, h2⟩ := unhide HR
        exact ⟨s, h1, B, h2⟩
      have hk' : k < r.zs.length := by have := hr2.a.le; omega
      obtain ⟨b, o, ha, hlb, e0, e1, e2, e3⟩ := hr2.a.row.up hk'
      have hx := hr2.a.all _ (List.getElem_mem hk')
      have hxL := hLz _ (List.getElem_mem hk')
      have HT : Hid (r.zs.take (k + 1) = r.zs.take k ++ [r.zs[k]]) := hide (List.take_succ_eq_append_getElem hk')
      rw [ha] at c3
      clear hr2 ha
      generalize r.zs[k] = z at e0 e1 e2 e3 hx hxL HT
      have hp2 := below_new wz (.cells #[.int .i64 z.k, .string z.n, .slice none 0 0, .int .i64 z.wh] 86)
      have hX := hide (xc_new wz z)
      have hs2 : wz.heap.size + 1 ≤ (wz.alloc (.cells #[.int .i64 z.k, .string z.n, .slice none 0 0, .int .i64 z.wh] 86)).heap.size := by simp
      go_wp2_with fail
      have hlw : w.heap.size < wz.heap.size := by have := hbw.size; omega
      clear e0 e1 e3 c0 c1 c2
      obtain ⟨i0, hi, hz0, hzz1, hzz2⟩ := info_parts infoE
      go_loopw [6] (fun i wr => ∃ (j : Nat) (es : List Ez) (u : Value), j ≤ z.m ∧ i = .int .i64 j ∧ es.length ≤ j ∧ j ≤ es.length ∧ Hid (Xc wr wz.heap.size z u) ∧ Hid (OwnE wr (wz.heap.size + 1) u es) ∧ Hid (es.map Ez.xs = (z.es.take j).map Ez.xs) ∧ Hid (∀ e ∈ es, e.Light) ∧ wz.heap.size + 1 ≤ wr.heap.size ∧ Below wz.heap.size wz wr) (fun i _ => z.m - (intOf i).toNat)
      case atStart => exact ⟨0, [], .slice none 0 0, Nat.zero_le _, rfl, Nat.le_refl _, Nat.le_refl _, hX, hide ⟨World.ownsRow_nil _ _ _ _, fun e h => by cases h⟩, hide rfl, hide (fun e h => by cases h), hs2, hp2⟩
      case round =>
        obtain ⟨j, es, u, hj, rfl, hl1, hl2, HX, HE, HEP, HEL, hs3, hby⟩ := hrel
        have g3 := cell_on hby c3
        have g2 := cell_on hby e2
        have hy := Az.In.on hx hby
        by_cases hjt : j < z.m
        case neg =>
          have hjm : j = z.m := by omega
          have hml := LiesE.ge hy
          have HPE : Hid (es.map Ez.xs = z.es.map Ez.xs) := hide (by rw [unhide HEP, List.take_of_length_le (by omega)])
          obtain ⟨ua, uc, rfl⟩ := own_slice (unhide HE).row
          have hel : es.length ≤ 20 := by have := hxL.m; omega
          have HO1 := (unhide HB).low hby (by omega)
          have HA1 := (unhide HA).on hby
          have hx1 := unhide HX
          have y3 := HO1.c3
          have y4 := HO1.fz
          obtain ⟨x0, x1, x2, x3, -⟩ := hx1
          obtain ⟨i1, hi', hy0, hy1, hy2⟩ := info_parts infoZ
          have hwz : wc.heap.size ≤ wr.heap.size := by omega
          have hcl8 := hide (heap_alloc_new wr (bxZ ⟨z.k, z.n, ua, es.length, uc, es, z.wh⟩))
          have hs8 : wc.heap.size ≤ (wr.alloc (bxZ ⟨z.k, z.n, ua, es.length, uc, es, z.wh⟩)).heap.size := by simp; omega
          have hzl : zs.length ≤ 100 := by omega
          have hE1 := hide (unhide HE)
          have hO1 := hide HO1
          have hA1 := hide HA1
          have hpr : p < wr.heap.size := by omega
          have hm20 := hxL.m
          clear hjm hml hy HO1 HA1 HX HE HEP
          go_wp2_with (at_builtin; refine app_z rfl _ _ rfl wc.heap.size v zs ⟨z.k, z.n, ua, es.length, uc, es, z.wh⟩ wr.heap.size rfl rfl (World.ownsRow.alloc (unhide hA1).row _) hcl8 hzl hs8 ?_)
          intro v' w9 hr9 hg9 h59
          have hr0 : w9.ownsRow wc.heap.size 86 4 v' (zs ++ [(⟨z.k, z.n, ua, es.length, uc, es, z.wh⟩ : Az)]).length (flatZs (zs ++ [(⟨z.k, z.n, ua, es.length, uc, es, z.wh⟩ : Az)])) := by rw [List.length_append]; simpa using hr9
          have h60 : v'.ownBlock = v.ownBlock ∨ v'.ownBlock = some (wr.alloc (bxZ ⟨z.k, z.n, ua, es.length, uc, es, z.wh⟩)).heap.size := by simpa using h59
          have hvl : ∀ m, v.ownBlock = some m → wc.heap.size ≤ m := fun m hm => ((unhide hA1).row.lt m hm).1
          have hb9 := (Below.refl wc.heap.size (wr.alloc (bxZ ⟨z.k, z.n, ua, es.length, uc, es, z.wh⟩))).grown hg9 hs8 hvl
          have HO9 := ((unhide hO1).low (below_new wr (bxZ ⟨z.k, z.n, ua, es.length, uc, es, z.wh⟩)) hpr).low hb9 hs0
          have y3 := HO9.c3
          have y4 := HO9.fz
          have HOf := hide (HO9.set v')
          have HAf := hide (OwnA.more (unhide HA) (Nat.le_succ _) hby (unhide hE1) (by omega) hr0 hg9 h60 (a := ⟨p, 3, none⟩) hs0 v')
          have HCf := hide (((((unhide HC).on hby).on (below_new wr (bxZ ⟨z.k, z.n, ua, es.length, uc, es, z.wh⟩))).beside hg9 ((unhide HBl).mono (fun m hm k hk => by have := hvl k hk; omega))).set (a := ⟨p, 3, none⟩) (unhide HOff) v')
          have hbf := ((Below.trans (bt (bt hbw hby) (below_new wr (bxZ ⟨z.k, z.n, ua, es.length, uc, es, z.wh⟩))) (hb9.mono (by omega))).setCell (p := ⟨p, 3, none⟩) hlo v')
          have hsf : wc.heap.size ≤ (w9.setCell ⟨p, 3, none⟩ v').heap.size := by
            have := hb9.size
            simp only [World.size_setCell]
            omega
          have HPf : Hid ((zs ++ [(⟨z.k, z.n, ua, es.length, uc, es, z.wh⟩ : Az)]).map Az.pl = (r.zs.take (k + 1)).map Az.pl) := hide (by
            rw [unhide HT, List.map_append, List.map_append, unhide HP]
            simp only [List.map_cons, List.map_nil, Az.pl, unhide HPE])
          have HLf : Hid (∀ c ∈ zs ++ [(⟨z.k, z.n, ua, es.length, uc, es, z.wh⟩ : Az)], c.Light) := hide (fun c hc => by
            rcases List.mem_append.1 hc with h | h
            · exact unhide HZL c h
            · rw [List.mem_singleton.1 h]; exact ⟨hxL.n, hel, unhide HEL⟩)
          have hz1' : (zs ++ [(⟨z.k, z.n, ua, es.length, uc, es, z.wh⟩ : Az)]).length ≤ k + 1 := by rw [List.length_append, List.length_singleton]; omega
          have hz2' : k + 1 ≤ (zs ++ [(⟨z.k, z.n, ua, es.length, uc, es, z.wh⟩ : Az)]).length := by rw [List.length_append, List.length_singleton]; omega
          generalize zs ++ [(⟨z.k, z.n, ua, es.length, uc, es, z.wh⟩ : Az)] = zs' at HAf HPf HLf hz1' hz2' hr9
          obtain ⟨q9, c9, rfl⟩ := own_slice hr9
          clear hr9 hr0 hg9 h59 h60 hb9 HO9 hE1 hO1 hA1 hcl8 g2 g3 x0 x1 x2 x3 hvl
          go_wp2_with fail
          go_roundw
          case rel => exact ⟨k + 1, zs', _, by omega, by go_num, hz1', hz2', HOf, HCf, HAf, HPf, HLf, hsf, hbf⟩
          case measure => simp [intOf]; omega
        have hj' : j < z.es.length := by have := LiesE.le hy; omega
        obtain ⟨b', o', ha', hlb', f0⟩ := (LiesE.row hy).up hj'
        have hxe := LiesE.all hy _ (List.getElem_mem hj')
        have hxl := hxL.e _ (List.getElem_mem hj')
        have HT' : Hid (z.es.take (j + 1) = z.es.take j ++ [z.es[j]]) := hide (List.take_succ_eq_append_getElem hj')
        rw [ha'] at g2
        have hj20 : j < 20 := by have := hxL.m; omega
        clear hy ha' c3 e2 hx hX hp2
        generalize z.es[j] = y at f0 hxe hxl HT'
        have hl40 : y.l ≤ 20000 := by have := hxl.l; omega
        have x2 := (unhide HX).c2
        have x4 := (unhide HX).fz
        have HEO := unhide HE
        go_upto_region 10 with fail
        have hsw : Hid (wz.heap.size + 1 ≤ wr.heap.size) := hide hs3
        have hXlt : wz.heap.size < wr.heap.size := by omega
        go_region_law (first
          | (refine step_append_at (by rfl) _ _ 84 (by rfl) (wz.heap.size + 1) 81 i0 (.slice none 0 0) 1 24 Tryz.underlying84 hi hz0 hzz1 hzz2 (by rfl) (by decide) u es.length (flatE es) (by rfl) ho8 ⟨w7.heap.size, 0, none⟩ 1 1 [.slice q7 y.l c7] (by rfl) (by rfl) (unhide hcl8) (by simp [Value.oneCell']) (by unfold maxLen; omega) (by omega) hs8 ?_; intro v' w9 hr9 hg9 h59; obtain ⟨q9, c9, rfl⟩ := own_slice hr9; have hb9 := (Below.refl (wz.heap.size + 1) (w7.alloc (.cells #[.slice q7 y.l c7] 81))).grown hg9 hs8 (fun m hm => (ho8.lt m hm).1); have t2 := (hb9.cell (p := ⟨wz.heap.size, 2, none⟩) (Nat.lt_succ_self _)).trans r2; have t4 := (hb9.frozen (p := ⟨wz.heap.size, 2, none⟩) (Nat.lt_succ_self _)).trans r4)
          | (go_simp; go_at_call 48; refine (twinO_any y.a y.l y.c y.xs _ (LiesO.on hxe (Below.refl _ _).drew) hl40).mono ?_; rintro e w7 ⟨q7, c7, rfl, ho7, hb7⟩; have h77 : Below wr.heap.size wr w7 := bt (Below.refl _ _).drew hb7; have h78 := bt h77 (below_new w7 (.cells #[.slice q7 y.l c7] 81)); have y2 := cell_on h77 x2; have r2 := cell_on h78 x2; have r4 := (h78.frozen (p := ⟨wz.heap.size, 2, none⟩) hXlt).trans x4; have ho8 := own_on HEO.row h78; have hcl8 := hide (cells_e (heap_alloc_new w7 (.cells #[.slice q7 y.l c7] 81))); have hs8 : wz.heap.size + 1 ≤ (w7.alloc (.cells #[.slice q7 y.l c7] 81)).heap.size := Nat.le_trans (unhide hsw) h78.size))
        all_goals
          have HX9 := hide ((((unhide HX).low h78 hXlt).low hb9 (Nat.lt_succ_self _)).set (.slice q9 (es.length + 1) c9))
          have HE9 := hide (OwnE.more (unhide HE) (unhide hsw) h77 ho7 hr9 hg9 h59 (a := ⟨wz.heap.size, 2, none⟩) (Nat.lt_succ_self _) (.slice q9 (es.length + 1) c9))
          have hb10 := (Below.trans (bt hby h78) (hb9.mono (Nat.le_succ _))).setCell (p := ⟨wz.heap.size, 2, none⟩) (Nat.le_refl _) (.slice q9 (es.length + 1) c9)
          have hs10 : wz.heap.size + 1 ≤ (w9.setCell ⟨wz.heap.size, 2, none⟩ (.slice q9 (es.length + 1) c9)).heap.size := by
            have := hb9.size
            simp only [World.size_setCell]
            omega
          have HP9 : Hid ((es ++ [(⟨q7, y.l, c7, y.xs⟩ : Ez)]).map Ez.xs = (z.es.take (j + 1)).map Ez.xs) := hide (by
            rw [unhide HT', List.map_append, List.map_append, unhide HEP]; rfl)
          have HL9 : Hid (∀ e ∈ es ++ [(⟨q7, y.l, c7, y.xs⟩ : Ez)], e.Light) := hide (fun e he => by
            rcases List.mem_append.1 he with h | h
            · exact unhide HEL e h
            · rw [List.mem_singleton.1 h]; exact ⟨hxl.l, hxl.x⟩)
          have hl1' : (es ++ [(⟨q7, y.l, c7, y.xs⟩ : Ez)]).length ≤ j + 1 := by rw [List.length_append, List.length_singleton]; omega
          have hl2' : j + 1 ≤ (es ++ [(⟨q7, y.l, c7, y.xs⟩ : Ez)]).length := by rw [List.length_append, List.length_singleton]; omega
          generalize es ++ [(⟨q7, y.l, c7, y.xs⟩ : Ez)] = es' at HE9 HP9 HL9 hl1' hl2'
          clear HX HE HEP HEL x2 x4 y2 r2 r4 t2 t4 ho8 hcl8 hs8 hr9 hg9 h59 hb9 h77 h78 ho7 hb7 g2 g3 f0 hxe hxl HEO
          go_wp2_with fail
          go_roundw
          case rel => exact ⟨j + 1, es', _, by omega, by go_num, hl1', hl2', HX9, HE9, HP9, HL9, hs10, hb10⟩
          case measure => simp [intOf]; omega
end Go.Proofs.YtcjnhhbcleljmaaGreatDoor.Sb
