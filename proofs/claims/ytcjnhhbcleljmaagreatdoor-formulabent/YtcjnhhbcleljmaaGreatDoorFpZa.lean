/- Joined: FoZ FpA FpB FpC. -/
import Derived.Test.YtcjnhhbcleljmaaGreatDoorFoZa
import Derived.Test.YtcjnhhbcleljmaaGreatDoorRuZc
import Derived.Test.YtcjnhhbcleljmaaGreatDoorRuZa
import Derived.Test.YtcjnhhbcleljmaaGreatDoorFoZc
import Derived.Test.YtcjnhhbcleljmaaGreatDoorForZa
import Derived.Test.YtcjnhhbcleljmaaGreatDoorRvZc
import Derived.Test.YtcjnhhbcleljmaaGreatDoorForI
namespace Go.Proofs.YtcjnhhbcleljmaaGreatDoor.Sb
open Go.RowKit
open V

theorem nz_iff {c d : Nz} : c.pl = d.pl ↔ c.k = d.k ∧ (c.n = d.n ∧ c.ts = d.ts) ∧ c.A = d.A ∧ c.B = d.B := by
  unfold Nz.pl
  simp only [Prod.mk.injEq]
  constructor
  · rintro ⟨h1, ⟨h2, h3⟩, h4, h5⟩
    exact ⟨h1, ⟨ByteArray.ext (Array.toList_inj.1 h2), h3⟩, h4, h5⟩
  · rintro ⟨h1, ⟨h2, h3⟩, h4, h5⟩
    exact ⟨h1, ⟨by rw [h2], h3⟩, h4, h5⟩
theorem pz_iff {x y : Pz} : x.pl = y.pl ↔ x.n = y.n ∧ (x.tn = y.tn ∧ x.ts = y.ts) ∧ x.zs.map Nz.pl = y.zs.map Nz.pl := by
  unfold Pz.pl
  simp only [Prod.mk.injEq]
  constructor
  · rintro ⟨h1, ⟨h2, h3⟩, h4⟩
    exact ⟨ByteArray.ext (Array.toList_inj.1 h1), ⟨ByteArray.ext (Array.toList_inj.1 h2), h3⟩, h4⟩
  · rintro ⟨h1, ⟨h2, h3⟩, h4⟩
    exact ⟨by rw [h1], ⟨by rw [h2], h3⟩, h4⟩
set_option maxHeartbeats 4000000 in
set_option maxRecDepth 20000 in
theorem keepNodes_q (a a' : Option Addr) (n n' cap cap' : Nat) (cs ds : List Nz) (q : Bool) (w : World) (hA : LiesN w a n cap cs) (hB : LiesN w a' n' cap' ds) (h1k : n ≤ 20000) (hm : ∀ c ∈ cs, c.m ≤ 1000) (HQ : Hid (q = true ↔ cs.map Nz.pl = ds.map Nz.pl)) :
    Calls Tryz.prog 31 #[.slice a n cap, .slice a' n' cap'] w fun e w' => e = .returned (.bool q) ∧ Below w.heap.size w w' := by
  have hle := hA.le
  have hge := hA.ge
  have hle' := hB.le
  have hge' := hB.ge
  by_cases hn : n = n'
  case neg =>
    have e1 : ((n : Int) != n') = true := by simp; omega
    have HR := hide (show false = q from iff_no (unhide HQ) (map_len (by omega)))
    clear hle hge hle' hge' hn
    go_enter Tryz.func31, Tryz.ntmps31
    go_wp2_with fail
    go_ret
    exact ⟨ret_bool' (unhide HR), Below.refl _ _⟩
  subst hn
  have e1 : ((n : Int) != n) = false := by simp
  go_enter Tryz.func31, Tryz.ntmps31
  go_wp2_with fail
  clear e1
  go_loopw [5] (fun i wr => ∃ k : Nat, k ≤ n ∧ i = .int .i64 k ∧ Hid (∀ j (h1 : j < cs.length) (h2 : j < ds.length), j < k → cs[j].pl = ds[j].pl) ∧ Below w.heap.size w wr) (fun i _ => n - (intOf i).toNat)
  case atStart => exact ⟨0, Nat.zero_le _, rfl, hide (fun j _ _ h => by omega), Below.refl _ _⟩
  case round =>
    obtain ⟨k, hk, rfl, HJ, hbw⟩ := hrel
    have hA1 := hA.on hbw
    have hB1 := hB.on hbw
    have cp1 := hA1.cap
    have cp2 := hB1.cap
    by_cases hlt : k < n
    · have hk1 : k < cs.length := by omega
      have hk2 : k < ds.length := by omega
      obtain ⟨b, o, ha, hbl, c0, c1, c2, c3, c4⟩ := hA1.row.up hk1
      obtain ⟨b', o', ha', hbl', d0, d1, d2, d3, d4⟩ := hB1.row.up hk2
      have hx : cs[k].In wr := hA1.all _ (List.getElem_mem hk1)
      have hy : ds[k].In wr := hB1.all _ (List.getElem_mem hk2)
      have m1 := hm _ (List.getElem_mem hk1)
      have HX : Hid (cs[k].pl = ds[k].pl → ∀ j (h1 : j < cs.length) (h2 : j < ds.length), j < k + 1 → cs[j].pl = ds[j].pl) := hide (fun h => map_step hk1 hk2 h (unhide HJ))
      have HN : Hid (¬ cs[k].pl = ds[k].pl → false = q) := hide (fun h => iff_no (unhide HQ) (map_ne hk1 hk2 h))
      subst ha
      subst ha'
      clear HJ hA1 hB1
      generalize cs[k] = c at c0 c1 c2 c3 c4 hx m1 HX HN
      generalize ds[k] = d at d0 d1 d2 d3 d4 hy HX HN
      by_cases h1 : c.k = d.k
      case neg =>
        have x1 : (c.k != d.k) = true := by simp [h1]
        have HR := hide (unhide HN (fun h => h1 (nz_iff.1 h).1))
        clear h1 HX HN hx hy
        go_wp2_with fail
        go_quiet (fail)
        have hb9 := below_drewN hbw nq
        go_wp2_with fail
        go_ret
        exact ⟨ret_bool' (unhide HR), hb9⟩
      have x1 : (c.k != d.k) = false := by simp [h1]
      by_cases h2 : c.A = d.A
      case neg =>
        have x2 : (c.A != d.A) = true := by simp [h2]
        have HR := hide (unhide HN (fun h => h2 (nz_iff.1 h).2.2.1))
        clear h1 h2 HX HN hx hy
        go_wp2_with fail
        go_quiet (fail)
        have hb9 := below_drewN hbw nq
        go_wp2_with fail
        go_ret
        exact ⟨ret_bool' (unhide HR), hb9⟩
      have x2 : (c.A != d.A) = false := by simp [h2]
      by_cases h3 : c.B = d.B
      case neg =>
        have x3 : (c.B != d.B) = true := by simp [h3]
        have HR := hide (unhide HN (fun h => h3 (nz_iff.1 h).2.2.2))
        clear h1 h2 h3 HX HN hx hy
        go_wp2_with fail
        go_quiet (fail)
        have hb9 := below_drewN hbw nq
        go_wp2_with fail
        go_ret
        exact ⟨ret_bool' (unhide HR), hb9⟩
      have x3 : (c.B != d.B) = false := by simp [h3]
      obtain ⟨p, hp⟩ : ∃ p, decide (c.n = d.n ∧ c.ts = d.ts) = p := ⟨_, rfl⟩
      have HP : Hid (p = true ↔ c.pl = d.pl) := hide (by
        rw [← hp, decide_eq_true_eq]
        exact ⟨fun h => nz_iff.2 ⟨h1, h, h2, h3⟩, fun h => (nz_iff.1 h).2.1⟩)
      have F := fun W hA hB => keepAtom_any c.n d.n c.a d.a c.m d.m c.mc d.mc c.ts d.ts W hA hB m1
      rw [hp] at F
      clear h1 h2 h3 hp
      go_wp2_with fail
      have F1 := cls (wr := wr) (fun V hV => F V (Lies.on hx hV) (Lies.on hy hV))
      have g0 := cell_regrown c0
      have g1 := cell_regrown c1
      have g2 := cell_regrown c2
      have g3 := cell_regrown c3
      have g4 := cell_regrown c4
      have i0 := cell_regrown d0
      have i1 := cell_regrown d1
      have i2 := cell_regrown d2
      have i3 := cell_regrown d3
      have i4 := cell_regrown d4
      clear F c0 c1 c2 c3 c4 d0 d1 d2 d3 d4 hx hy m1
      refine wp_region_quiet_below (by kernel_rfl) (by kernel_rfl) ?_
      repeat (go_big_quiet_step (with_reducible exact F1 _ _))
      refine wpQuiet_nil ?_
      intro _ hw'
      obtain ⟨⟨dq, osq⟩, hw''⟩ := hw'
      subst hw''
      have hb2 := below_regrown wr dq osq
      clear F1 g0 g1 g2 g3 g4 i0 i1 i2 i3 i4
      generalize Sort.grow (redrawn wr dq) osq = w9 at hb2
      cases p with
      | false =>
        have HR := hide (unhide HN (fun e => by have := (unhide HP).2 e; cases this))
        clear HP
        go_wp2_with fail
        go_ret
        exact ⟨ret_bool' (unhide HR), bt hbw hb2⟩
      | true =>
        have HY := hide (unhide HX ((unhide HP).1 rfl))
        have hbw2 := bt hbw hb2
        clear HP HX HN hbw hb2 x1 x2 x3
        go_wp2_with fail
        go_roundw
        case rel => exact ⟨k + 1, by omega, by go_num, HY, hbw2⟩
        case measure => simp [intOf]; omega
    · have HR := hide (show true = q from iff_yes (unhide HQ) (map_all (by omega) (by omega) (unhide HJ)))
      clear HJ hA1 hB1
      go_wp2_with fail
      go_ret
      exact ⟨ret_bool' (unhide HR), hbw⟩
theorem p2_of (w : World) (x y : Pz) : BPt ((w.alloc (bxPt x)).alloc (bxPt y)) w.heap.size x ∧ BPt ((w.alloc (bxPt x)).alloc (bxPt y)) (w.heap.size + 1) y ∧ Below w.heap.size w ((w.alloc (bxPt x)).alloc (bxPt y)) := by
  have s1 : (w.alloc (bxPt x)).heap.size = w.heap.size + 1 := by simp
  have h1 := heap_alloc_new (w.alloc (bxPt x)) (bxPt y)
  rw [s1] at h1
  have h0 : ((w.alloc (bxPt x)).alloc (bxPt y)).heap[w.heap.size]? = some (bxPt x) := by
    rw [Lib.alloc_old _ _ _ (by omega)]; exact heap_alloc_new w (bxPt x)
  exact ⟨bpt_of h0, bpt_of h1, ((Below.refl _ _).alloc (Nat.le_refl _) _).alloc (by simp) _⟩
set_option maxHeartbeats 4000000 in
set_option maxRecDepth 20000 in
theorem keepPat_q (x y : Pz) (q : Bool) (w : World) (hx : x.In w) (hy : y.In w) (ht : x.tm ≤ 1000) (hl : x.nl ≤ 20000) (hm : ∀ c ∈ x.zs, c.m ≤ 1000) (HQ : Hid (q = true ↔ x.pl = y.pl)) :
    Calls Tryz.prog 32 #[aggP x, aggP y] w fun e w' => e = .returned (.bool q) ∧ Below w.heap.size w w' := by
  obtain ⟨T0, S0, hw0⟩ := p2_of w x y
  have hx0 := hx.on hw0
  have hy0 := hy.on hw0
  clear hx hy
  have NO := hide (show ¬ (x.n = y.n ∧ (x.tn = y.tn ∧ x.ts = y.ts) ∧ x.zs.map Nz.pl = y.zs.map Nz.pl) → false = q from fun h => iff_no (unhide HQ) (fun e => h (pz_iff.1 e)))
  obtain ⟨c0, c1, c2, c3⟩ := T0
  obtain ⟨d0, d1, d2, d3⟩ := S0
  by_cases h1 : x.n = y.n
  case neg =>
    have e2 : (x.n.toList == y.n.toList) = false := by
      rw [beq_eq_false_iff_ne]
      exact fun e => h1 (toList_inj.1 e)
    have HR := hide (unhide NO (fun h => h1 h.1))
    clear h1 NO HQ
    go_enter Tryz.func32, Tryz.ntmps32
    go_wp2_with fail
    go_ret
    exact ⟨ret_bool' (unhide HR), hw0⟩
  have e2 : (x.n.toList == y.n.toList) = true := by simp [h1]
  have H1 := hide h1
  clear h1
  obtain ⟨p, hp⟩ : ∃ p, decide (x.tn = y.tn ∧ x.ts = y.ts) = p := ⟨_, rfl⟩
  have F := fun W hA hB => keepAtom_any x.tn y.tn x.ta y.ta x.tm y.tm x.tc y.tc x.ts y.ts W hA hB ht
  rw [hp] at F
  go_enter Tryz.func32, Tryz.ntmps32
  go_wp2_with fail
  refine (F _ hx0.t hy0.t).mono ?_
  rintro e w1 ⟨rfl, hb1⟩
  have T1 := (BPt.mk (p := x) c0 c1 c2 c3).on hb1
  have S1 := (BPt.mk (p := y) d0 d1 d2 d3).on hb1
  have hx1 := hx0.on hb1
  have hy1 := hy0.on hb1
  have hw1 := bt hw0 hb1
  clear F hx0 hy0 hw0 hb1 c0 c1 c2 c3 d0 d1 d2 d3 e2
  cases p with
  | false =>
    have HR := hide (unhide NO (fun h => of_decide_eq_false hp h.2.1))
    clear hp
    go_wp2_with fail
    go_ret
    exact ⟨ret_bool' (unhide HR), hw1⟩
  | true =>
  have H2 := hide (of_decide_eq_true hp)
  clear hp
  obtain ⟨c0, c1, c2, c3⟩ := T1
  obtain ⟨d0, d1, d2, d3⟩ := S1
  have HQ2 : Hid (q = true ↔ x.zs.map Nz.pl = y.zs.map Nz.pl) := hide ⟨fun h => (pz_iff.1 ((unhide HQ).1 h)).2.2, fun h => (unhide HQ).2 (pz_iff.2 ⟨unhide H1, unhide H2, h⟩)⟩
  go_wp2_with fail
  refine (keepNodes_q x.na y.na x.nl y.nl x.nc y.nc x.zs y.zs q w1 hx1.z hy1.z hl hm HQ2).mono ?_
  rintro e w2 ⟨rfl, hb2⟩
  have hw2 := bt hw1 hb2
  clear c0 c1 c2 c3 d0 d1 d2 d3
  go_wp2_with fail
  go_ret
  exact ⟨rfl, hw2⟩
end Go.Proofs.YtcjnhhbcleljmaaGreatDoor.Sb
namespace Go.Proofs.YtcjnhhbcleljmaaGreatDoor.Sb
open Go.RowKit
open V

set_option maxHeartbeats 4000000 in
theorem nheavy_any (a : Option Addr) (n cap : Nat) (zs : List Nz) (w : World) (hz : LiesN w a n cap zs) :
    Calls Tryz.prog 22 #[.slice a n cap] w fun e w' => ((e = .returned (.bool true)) ∨ (e = .returned (.bool false) ∧ n ≤ 60 ∧ ∀ z ∈ zs, z.Light)) ∧ Below w.heap.size w w' := by
  by_cases h1 : 60 < n
  · have d1 : decide (60 < (n : Int)) = true := by simp; omega
    clear h1
    go_enter Tryz.func22, Tryz.ntmps22
    go_wp2_with fail
    go_ret
    exact ⟨Or.inl rfl, Below.refl _ _⟩
  have d1 : decide (60 < (n : Int)) = false := by simp; omega
  have hn : n ≤ 60 := by omega
  clear h1
  go_enter Tryz.func22, Tryz.ntmps22
  go_wp2_with fail
  clear d1
  go_loopw [3] (fun i wr => ∃ k : Nat, k ≤ n ∧ i = .int .i64 k ∧ Hid (∀ j (_ : j < zs.length), j < k → zs[j].Light) ∧ Below w.heap.size w wr) (fun i _ => n - (intOf i).toNat)
  case atStart => exact ⟨0, Nat.zero_le _, rfl, hide (fun j _ h => by omega), Below.refl _ _⟩
  case round =>
    obtain ⟨k, hk, rfl, HK, hbw⟩ := hrel
    have hz1 := hz.on hbw
    have hge := hz1.ge
    have hle := hz1.le
    have hcp := hz1.cap
    by_cases hlt : k < n
    · have hk' : k < zs.length := by omega
      obtain ⟨b, o, ha, hbl, e0, e1, e2, e3, e4⟩ := hz1.row.up hk'
      have hx : zs[k].In wr := hz1.all _ (List.getElem_mem hk')
      have HX : Hid (zs[k].Light → ∀ j (_ : j < zs.length), j < k + 1 → zs[j].Light) := hide (fun h j hj h' => by
        by_cases e : j = k
        · subst e; exact h
        · exact unhide HK j hj (by omega))
      subst ha
      clear hz1 HK hge hle
      generalize zs[k] = c at e0 e1 e2 e3 e4 hx HX
      go_wp2_with fail
      refine (aheavy_any c.n c.a c.m c.mc c.ts _ hx).mono ?_
      rintro e w2 ⟨rfl | ⟨rfl, hL1, hL2, hL3⟩, hb2⟩
      · clear e0 e1 e2 e3 e4 hx HX
        go_wp2_with fail
        go_ret
        exact ⟨Or.inl rfl, bt hbw hb2⟩
      · have HL := hide ((unhide HX) ⟨hL1, hL2, hL3⟩)
        have hbw2 := bt hbw hb2
        clear e0 e1 e2 e3 e4 hx HX hL1 hL2 hL3 hbw hb2
        go_wp2_with fail
        go_roundw
        case rel => exact ⟨k + 1, by omega, by go_num, HL, hbw2⟩
        case measure => simp [intOf]; omega
    · have HZ : Hid (∀ z ∈ zs, z.Light) := hide (fun c hc => by
        obtain ⟨j, hj, rfl⟩ := List.getElem_of_mem hc
        exact unhide HK j hj (by omega))
      clear hge hle HK hz1
      go_wp2_with fail
      go_ret
      exact ⟨Or.inr ⟨rfl, hn, unhide HZ⟩, hbw⟩
set_option maxHeartbeats 4000000 in
theorem pheavy_any (p : Pz) (w : World) (hi : p.In w) :
    Calls Tryz.prog 23 #[aggP p] w fun e w' => ((e = .returned (.bool true)) ∨ (e = .returned (.bool false) ∧ p.Light ∧ p.nl ≤ 60)) ∧ Below w.heap.size w w' := by
  have hb0 := below_new w (bxPt p)
  have T0 := bpt_of (heap_alloc_new w (bxPt p))
  have hi0 := hi.on hb0
  clear hi
  by_cases h1 : 200 < p.n.size
  · have d1 := size_t h1
    obtain ⟨c0, c1, c2, c3⟩ := T0
    clear h1 hi0
    go_enter Tryz.func23, Tryz.ntmps23
    go_wp2_with fail
    go_ret
    exact ⟨Or.inl rfl, hb0⟩
  have d1 := size_f h1
  have HN : Hid (p.n.size ≤ 200) := hide (by omega)
  clear h1
  obtain ⟨c0, c1, c2, c3⟩ := T0
  go_enter Tryz.func23, Tryz.ntmps23
  go_wp2_with fail
  refine (aheavy_any p.tn p.ta p.tm p.tc p.ts _ hi0.t).mono ?_
  rintro e w1 ⟨rfl | ⟨rfl, hL1, hL2, hL3⟩, hb1⟩
  · clear c0 c1 c2 c3 d1
    go_wp2_with fail
    go_ret
    exact ⟨Or.inl rfl, bt hb0 hb1⟩
  have T1 := (BPt.mk (p := p) c0 c1 c2 c3).on hb1
  have hi1 := hi0.on hb1
  have hbw := bt hb0 hb1
  have HT : Hid (p.tn.size ≤ 200 ∧ p.tm ≤ 20 ∧ ∀ t ∈ p.ts, Lt t) := hide ⟨hL1, hL2, hL3⟩
  clear c0 c1 c2 c3 d1 hi0 hb0 hb1 hL1 hL2 hL3
  obtain ⟨c0, c1, c2, c3⟩ := T1
  go_wp2_with fail
  refine (nheavy_any p.na p.nl p.nc p.zs _ hi1.z).mono ?_
  rintro e w2 ⟨rfl | ⟨rfl, hn, hz⟩, hb2⟩
  · clear c0 c1 c2 c3
    go_wp2_with fail
    go_ret
    exact ⟨Or.inl rfl, bt hbw hb2⟩
  · have HL : Hid (p.Light ∧ p.nl ≤ 60) := hide ⟨⟨unhide HN, (unhide HT).1, (unhide HT).2.1, (unhide HT).2.2, by omega, hz⟩, hn⟩
    clear c0 c1 c2 c3 hn hz
    go_wp2_with fail
    go_ret
    exact ⟨Or.inr ⟨rfl, unhide HL⟩, bt hbw hb2⟩
end Go.Proofs.YtcjnhhbcleljmaaGreatDoor.Sb
namespace Go.Proofs.YtcjnhhbcleljmaaGreatDoor.V

theorem right_atomC {l : List Np} (h : rightFm l = true) : ∀ n ∈ l, ∃ a : At, n.2.1 = cutA a := by
  intro n hn
  obtain ⟨k, hk, rfl⟩ := List.getElem_of_mem hn
  obtain ⟨_, T, d, hT, _, _⟩ := right_grow.1 h
  obtain ⟨t, ht, hp⟩ := growL_at hT hk
  rcases growP_kind hp with ⟨_, ha, _⟩ | ⟨_, ha, _⟩ | ⟨_, ha, _⟩
  · exact ⟨l[k].2.1, (cutA_yes ha).symm⟩
  · exact ⟨noA, by rw [ha, cutA_none]⟩
  · exact ⟨noA, by rw [ha, cutA_none]⟩
end Go.Proofs.YtcjnhhbcleljmaaGreatDoor.V
namespace Go.Proofs.YtcjnhhbcleljmaaGreatDoor.Sb
open Go.RowKit
open V

theorem light_right {zs : List Nz} {w : World} {a : Option Addr} {n c : Nat} (hl : LiesN w a n c zs) (h : rightFm (zs.map Nz.pl) = true) : ∀ z ∈ zs, z.Light ∧ z.m ≤ 5 := by
  intro z hz
  obtain ⟨x, hx⟩ := right_atomC h z.pl (List.mem_map_of_mem hz)
  obtain ⟨l1, l2, l3⟩ := cutA_light x
  rw [← hx] at l1 l2 l3
  have h1 : z.n.data.toList.length ≤ 24 := l1
  have h2 : z.ts.length ≤ 5 := l2
  have h3 : z.m = z.ts.length := Lies.len (hl.all z hz)
  exact ⟨⟨by simp at h1; omega, by omega, l3⟩, by omega⟩
theorem right_few40 {zs : List Nz} {w : World} {a : Option Addr} {n c : Nat} (hl : LiesN w a n c zs) (h : rightFm (zs.map Nz.pl) = true) : 1 ≤ n ∧ n ≤ 40 := by
  obtain ⟨h1, _⟩ := rightFm_iff.1 h
  rw [List.length_map] at h1
  have := hl.le
  have := hl.ge
  omega
theorem right_light {z : Pz} {w : World} (hi : z.In w) (h : rightP z.pl = true) : z.Light ∧ z.nl ≤ 40 ∧ z.tm ≤ 5 := by
  obtain ⟨h1, h2, h3⟩ := rightP_iff.1 h
  have h1' : nameB z.n.data.toList = true := h1
  have h2' : V.rightA (z.tn.data.toList, z.ts) = true := h2
  have h3' : rightFm (z.zs.map Nz.pl) = true := h3
  obtain ⟨l1, l2, l3⟩ := cutA_light (z.tn.data.toList, z.ts)
  rw [cutA_yes h2'] at l1 l2 l3
  simp only at l1 l2 l3
  have hm := Lies.len hi.t
  have hf := right_few40 hi.z h3'
  refine ⟨⟨?_, ?_, ?_, l3, by omega, fun c hc => (light_right hi.z h3' c hc).1⟩, hf.2, by omega⟩
  · rw [size_len]
    have := name_short h1'
    omega
  · rw [size_len]
    omega
  · omega
/-- What Text, Pattern answer: the text, or none for nodes that are no formula, or none for a text that is too long. -/
def TxU (q : Bool) (t : List UInt8) (s : ByteArray) (c : Int) : Prop := (c = 0 ∧ q = true ∧ s.data.toList = t ∧ t.length ≤ 20000) ∨ (c ≠ 0 ∧ s = ⟨#[]⟩ ∧ ((q = false ∧ c = 17) ∨ (q = true ∧ c = 2 ∧ 20000 < t.length)))
theorem tx_of {q : Bool} {t : List UInt8} {e : Ending} (h : TextR q t e) : ∃ (s : ByteArray) (c : Int), e = .returned (.tuple #[.string s, .int .i64 c]) ∧ s.size ≤ 20000 ∧ Hid (TxU q t s c) := by
  rcases h with ⟨hq, rfl⟩ | ⟨hq, ⟨hl, rfl⟩ | ⟨hl, rfl⟩⟩
  · exact ⟨⟨#[]⟩, 17, rfl, by decide, hide (Or.inr ⟨by decide, rfl, Or.inl ⟨hq, rfl⟩⟩)⟩
  · exact ⟨bs t, 0, rfl, by rw [bs_size]; exact hl, hide (Or.inl ⟨rfl, hq, by simp, hl⟩)⟩
  · exact ⟨⟨#[]⟩, 2, rfl, by decide, hide (Or.inr ⟨by decide, rfl, Or.inr ⟨hq, rfl, by omega⟩⟩)⟩
theorem pattern_u (p : Pz) (w : World) (he : Env w) (hw : Wd w) (hi : p.In w) (hL : p.Light) :
    Calls Tryz.prog 26 #[aggP p] w fun e w' => (∃ (s : ByteArray) (c : Int), e = .returned (.tuple #[.string s, .int .i64 c]) ∧ s.size ≤ 20000 ∧ Hid (TxU (rightP p.pl) (textP p.pl) s c)) ∧ Below w.heap.size w w' :=
  (pattern_any p w he hw hi hL).mono (fun _ _ h => ⟨tx_of h.1, h.2⟩)
theorem ftext_u (a : Option Addr) (n c : Nat) (zs : List Nz) (w : World) (he : Env w) (hw : Wd w) (hA : LiesN w a n c zs) (hL : ∀ z ∈ zs, z.Light) (hn : n ≤ 20000) :
    Calls Tryz.prog 25 #[.slice a n c] w fun e w' => (∃ (s : ByteArray) (c : Int), e = .returned (.tuple #[.string s, .int .i64 c]) ∧ s.size ≤ 20000 ∧ Hid (TxU (rightFm (zs.map Nz.pl)) (textN 0 (zs.map Nz.pl)) s c)) ∧ Below w.heap.size w w' :=
  (ftext_any a n c zs w he hw hA hL hn).mono (fun _ _ h => ⟨tx_of h.1, h.2⟩)
theorem zeroP_in (w : World) : zeroPz.In w := ⟨lies_none w, liesN_none w⟩
/-- What formula.Read answers, from any place on. -/
theorem fread_u (a : Option Addr) (n c : Nat) (xs : List Tm) (i : Int) (w : World) (he : Env w) (hw : Wd w) (hl : LiesT w a n c xs) (hn : n ≤ 300) (hx : ∀ x ∈ xs, x.2.1.size ≤ 200) :
    Calls Tryz.prog 27 #[.slice a n c, .int .i64 i] w fun e w' => (∃ (q : Option Addr) (m cp : Nat) (zs : List Nz) (p g : Int), e = .returned (.tuple #[.slice q m cp, .int .i64 p, .int .i64 g]) ∧ LiesN w' q m cp zs ∧ Hid (g = 0 → rightFm (zs.map Nz.pl) = true ∧ i < p ∧ p ≤ n)) ∧ Below w.heap.size w w' := by
  by_cases h : i < 0 ∨ (n : Int) < i
  · refine (fread_arg a n c i w h).mono ?_
    rintro e w' ⟨rfl, hb⟩
    exact ⟨⟨none, 0, 0, [], 0, 1, rfl, liesN_none _, hide (fun h => by cases h)⟩, hb⟩
  · obtain ⟨p, rfl⟩ : ∃ p : Nat, i = p := ⟨i.toNat, by omega⟩
    have G : Sg w a n c xs := ⟨he, hl, hide (fun x h => by have := hx x h; omega), by omega⟩
    refine (fread_any a n c xs p _ w G hw (by omega) (hide rfl)).mono ?_
    intro e w' hres
    cases hr : readF (xs.map ktm) p with
    | error q =>
      rw [hr] at hres
      obtain ⟨rfl, hb⟩ := hres
      exact ⟨⟨none, 0, 0, [], q, 7, rfl, liesN_none _, hide (fun h => by cases h)⟩, hb⟩
    | ok x =>
      rw [hr] at hres
      obtain ⟨⟨q, m, cp, zs, rfl, ho, hp⟩, hb⟩ := hres
      obtain ⟨h1, h2, h3⟩ := readF_ok (by rw [G.len]; omega) hr
      rw [G.len] at h3
      exact ⟨⟨q, m, cp, zs, x.2, 0, rfl, ho.lies, hide (fun _ => ⟨by rw [hp]; exact h1, by omega, by omega⟩)⟩, hb⟩
/-- What formula.ReadPattern answers, from any place on. -/
theorem freadP_u (a : Option Addr) (n c : Nat) (xs : List Tm) (i : Int) (w : World) (he : Env w) (hw : Wd w) (hl : LiesT w a n c xs) (hn : n ≤ 300) (hx : ∀ x ∈ xs, x.2.1.size ≤ 200) :
    Calls Tryz.prog 28 #[.slice a n c, .int .i64 i] w fun e w' => (∃ (z : Pz) (p g : Int), e = .returned (.tuple #[aggP z, .int .i64 p, .int .i64 g]) ∧ z.In w' ∧ Hid (g = 0 → rightP z.pl = true ∧ i < p ∧ p ≤ n)) ∧ Below w.heap.size w w' := by
  by_cases h : i < 0 ∨ (n : Int) < i
  · refine (freadP_arg a n c i w h).mono ?_
    rintro e w' ⟨rfl, hb⟩
    exact ⟨⟨zeroPz, 0, 1, rfl, zeroP_in _, hide (fun h => by cases h)⟩, hb⟩
  · obtain ⟨p, rfl⟩ : ∃ p : Nat, i = p := ⟨i.toNat, by omega⟩
    have G : Sg w a n c xs := ⟨he, hl, hide (fun x h => by have := hx x h; omega), by omega⟩
    refine (freadP_any a n c xs p _ w G hw (by omega) (hide rfl)).mono ?_
    intro e w' hres
    cases hr : readP (xs.map ktm) p with
    | error q =>
      rw [hr] at hres
      obtain ⟨rfl, hb⟩ := hres
      exact ⟨⟨zeroPz, q, 7, rfl, zeroP_in _, hide (fun h => by cases h)⟩, hb⟩
    | ok x =>
      rw [hr] at hres
      obtain ⟨⟨z, rfl, ho, hp⟩, hb⟩ := hres
      obtain ⟨h1, h2, h3⟩ := readP_ok (by rw [G.len]; omega) hr
      rw [G.len] at h3
      exact ⟨⟨z, x.2, 0, rfl, ho.lies, hide (fun _ => ⟨by rw [hp]; exact h1, by omega, by omega⟩)⟩, hb⟩
/-- The reading of a pattern's own signs. -/
theorem freadP_own (a : Option Addr) (c : Nat) (xs : List Tm) (us : List Tk) (v : Pp) (w : World) (he : Env w) (hw : Wd w) (hl : LiesT w a us.length c xs) (HK : Hid (xs.map ktm = us.map kt)) (HZ : Hid (∀ x ∈ xs, x.2.1.size ≤ 20000)) (hu : us.length ≤ 19999) (H : Hid (readP (us.map kt) 0 = .ok (v, us.length))) :
    Calls Tryz.prog 28 #[.slice a us.length c, .int .i64 0] w fun e w' => (∃ z : Pz, e = .returned (.tuple #[aggP z, .int .i64 us.length, .int .i64 0]) ∧ z.Own w' w.heap.size ∧ Hid (z.pl = v)) ∧ Below w.heap.size w w' := by
  have G : Sg w a us.length c xs := ⟨he, hl, HZ, hu⟩
  refine (freadP_any a us.length c xs 0 (.ok (v, us.length)) w G hw (Nat.zero_le _) (hide (by rw [unhide HK]; exact unhide H))).mono ?_
  rintro e w' ⟨⟨z, rfl, ho, hp⟩, hb⟩
  exact ⟨⟨z, rfl, ho, hide hp⟩, hb⟩
/-- The reading of a formula's own signs. -/
theorem fread_own (a : Option Addr) (c : Nat) (xs : List Tm) (us : List Tk) (v : List Np) (w : World) (he : Env w) (hw : Wd w) (hl : LiesT w a us.length c xs) (HK : Hid (xs.map ktm = us.map kt)) (HZ : Hid (∀ x ∈ xs, x.2.1.size ≤ 20000)) (hu : us.length ≤ 19999) (H : Hid (readF (us.map kt) 0 = .ok (v, us.length))) :
    Calls Tryz.prog 27 #[.slice a us.length c, .int .i64 0] w fun e w' => (∃ (q : Option Addr) (m cp : Nat) (zs : List Nz), e = .returned (.tuple #[.slice q m cp, .int .i64 us.length, .int .i64 0]) ∧ OwnN w' w.heap.size (.slice q m cp) zs ∧ Hid (zs.map Nz.pl = v)) ∧ Below w.heap.size w w' := by
  have G : Sg w a us.length c xs := ⟨he, hl, HZ, hu⟩
  refine (fread_any a us.length c xs 0 (.ok (v, us.length)) w G hw (Nat.zero_le _) (hide (by rw [unhide HK]; exact unhide H))).mono ?_
  rintro e w' ⟨⟨q, m, cp, zs, rfl, ho, hp⟩, hb⟩
  exact ⟨⟨q, m, cp, zs, rfl, ho, hide hp⟩, hb⟩
end Go.Proofs.YtcjnhhbcleljmaaGreatDoor.Sb
namespace Go.Proofs.YtcjnhhbcleljmaaGreatDoor.Sb
open Go.RowKit
open V

theorem pk_is : isPat pkT pkP := by
  obtain ⟨us, h1, h2⟩ := lexK_some pk_lex
  have hl : us.length = pkK.length := by rw [← h2, List.length_map]
  exact ⟨us, h1, by rw [hl]; decide, by rw [h2, hl]; exact pk_read⟩
/-- Where a node's own begin, told by hand. -/
theorem from_told (a : Option Addr) (n c : Nat) (zs : List Nz) (T : List Tr) (k : Nat) (t : Tr) (w : World) (hA : LiesN w a n c zs) (hr : rightFm (zs.map Nz.pl) = true) (hg : growL [] (zs.map Nz.pl) = some T) (hk : k < (zs.map Nz.pl).length) (ht : T[k]? = some t) :
    Calls Tryz.prog 33 #[.slice a n c, .int .i64 (k : Int)] w fun e w' => e = .returned (.int .i64 (t.1 : Int)) ∧ Below w.heap.size w w' := by
  have h40 := right_few40 hA hr
  refine (from_any a n c zs (k : Int) w hA (fun z hz => (light_right hA hr z hz).1) (by omega)).mono ?_
  rintro e w' ⟨⟨i, rfl, hi⟩, hb⟩
  refine ⟨?_, hb⟩
  rcases hi with ⟨hn, _⟩ | ⟨T', k', t', _, hk', _, hg', ht', rfl⟩
  · exact absurd ⟨hr, by omega, by omega⟩ hn
  · rw [hg] at hg'
    cases hg'
    have : k' = k := by omega
    subst this
    rw [ht] at ht'
    cases ht'
    rfl
set_option maxHeartbeats 4000000 in
set_option maxRecDepth 100000 in
theorem fwakes_any (w : World) (he : Env w) (hw : Wd w) :
    Calls Tryz.prog 39 #[] w fun e w' => e = .returned (.bool true) ∧ Below w.heap.size w w' := by
  obtain ⟨us, hlx, hu, hrd⟩ := pk_is
  have HR := hide hrd
  have F0 := hide (lex_lies2 ⟨#[112, 97, 116, 116, 101, 114, 110, 32, 97, 58, 32, 114, 40, 88, 41, 32, 61, 62, 32, 40, 110, 111, 116, 32, 112, 40, 88, 41, 32, 115, 105, 110, 99, 101, 32, 113, 40, 88, 41, 41, 46]⟩ us w (by decide) he (hide hlx))
  clear hlx hrd
  go_enter Tryz.func39, Tryz.ntmps39
  go_wp2_with fail
  refine (unhide F0).mono ?_
  rintro e w1 ⟨⟨a, c, xs, rfl, hl, HK, HZ⟩, hb1⟩
  have hbx := below_new w1 (objPos 0 0)
  have hw1 := bt hb1 hbx
  have F1 := hide (freadP_own a c xs us pkP _ (he.on hw1) (hw.on hw1) (hl.on hbx) HK HZ hu HR)
  clear F0 hb1 hbx hl HK HZ HR hu
  go_wp2_with fail
  generalize w1.alloc (objPos 0 0) = W1 at F1 hw1 ⊢
  refine (unhide F1).mono ?_
  rintro e w2 ⟨⟨z, rfl, ho, HP⟩, hb2⟩
  have hbz := below_new w2 (bxPt z)
  have T2 := bpt_of (heap_alloc_new w2 (bxPt z))
  have hw2 := bt (bt hw1 hb2) hbz
  have hi2 := ho.lies.on hbz
  have hR : rightP z.pl = true := by rw [unhide HP]; exact pk_right
  have hF : rightFm (z.zs.map Nz.pl) = true := (rightP_iff.1 hR).2.2
  have hpn : z.zs.map Nz.pl = pkP.2.2 := congrArg (fun y => y.2.2) (unhide HP)
  have n4 : z.nl = 4 := by
    have e : (z.zs.map Nz.pl).length = 4 := by rw [hpn]; rfl
    rw [List.length_map] at e
    have := hi2.z.le
    have := hi2.z.ge
    omega
  obtain ⟨hL, _, _⟩ := right_light hi2 hR
  have HL := hide hL
  have HPN := hide hpn
  have HF := hide hF
  have HT : Hid (textP z.pl = pkT) := hide (by rw [unhide HP]; exact pk_text)
  have HR2 := hide hR
  have HN := hide n4
  clear F1 ho hb2 hbz hw1 hR hF hpn n4 hL HP
  obtain ⟨c0, c1, c2, c3⟩ := T2
  go_wp2_with fail
  have T2 := BPt.mk (p := z) c0 c1 c2 c3
  clear c0 c1 c2 c3
  generalize hW : w2.alloc (bxPt z) = W2 at T2 hi2 hw2 ⊢
  refine (pattern_u z W2 (he.on hw2) (hw.on hw2) hi2 (unhide HL)).mono ?_
  rintro e w3 ⟨⟨s, c, rfl, -, HS⟩, hb3⟩
  obtain ⟨rfl, hs⟩ : c = 0 ∧ s = ⟨#[112, 97, 116, 116, 101, 114, 110, 32, 97, 58, 32, 114, 40, 88, 41, 32, 61, 62, 32, 40, 110, 111, 116, 32, 112, 40, 88, 41, 32, 115, 105, 110, 99, 101, 32, 113, 40, 88, 41, 41, 46]⟩ := by
    have h := unhide HS
    rw [unhide HT, unhide HR2] at h
    rcases h with ⟨h1, _, h3, _⟩ | ⟨_, _, ⟨h4, _⟩ | ⟨_, _, h5⟩⟩
    · exact ⟨h1, ByteArray.ext (Array.toList_inj.1 h3)⟩
    · cases h4
    · exact absurd h5 (by decide)
  subst hs
  have T3 := T2.on hb3
  have hi3 := hi2.on hb3
  have hw3 := bt hw2 hb3
  clear HS T2 hi2 hw2 hb3 hW
  obtain ⟨c0, c1, c2, c3⟩ := T3
  go_wp2_with fail
  have T3 := BPt.mk (p := z) c0 c1 c2 c3
  clear c0 c1 c2 c3
  refine (ftext_u z.na z.nl z.nc z.zs w3 (he.on hw3) (hw.on hw3) hi3.z (unhide HL).z (unhide HL).l).mono ?_
  rintro e w4 ⟨⟨s, c, rfl, -, HS⟩, hb4⟩
  obtain ⟨rfl, hs⟩ : c = 0 ∧ s = ⟨#[40, 110, 111, 116, 32, 112, 40, 88, 41, 32, 115, 105, 110, 99, 101, 32, 113, 40, 88, 41, 41]⟩ := by
    have h := unhide HS
    rw [unhide HF, unhide HPN, pk_form] at h
    rcases h with ⟨h1, _, h3, _⟩ | ⟨_, _, ⟨h4, _⟩ | ⟨_, _, h5⟩⟩
    · exact ⟨h1, ByteArray.ext (Array.toList_inj.1 h3)⟩
    · cases h4
    · exact absurd h5 (by decide)
  subst hs
  have T4 := T3.on hb4
  have hi4 := hi3.on hb4
  have hw4 := bt hw3 hb4
  have F5 := hide (from_told z.na z.nl z.nc z.zs [(0, 1), (0, 2), (2, 1), (0, 3)] 1 (0, 2) w4 hi4.z (unhide HF) (by rw [unhide HPN]; exact pk_grow) (by rw [unhide HPN]; decide) rfl)
  clear HS T3 hi3 hw3 hb4
  obtain ⟨c0, c1, c2, c3⟩ := T4
  have n4 := unhide HN
  rw [n4] at c3 F5
  go_wp2_with fail
  have T4 : BPt w4 _ z := BPt.mk (p := z) c0 c1 c2 (by rw [n4]; exact c3)
  clear c0 c1 c2 c3
  refine (unhide F5).mono ?_
  rintro e w5 ⟨rfl, hb5⟩
  have T5 := T4.on hb5
  have hi5 := hi4.on hb5
  have hw5 := bt hw4 hb5
  have F6 := hide (from_told z.na z.nl z.nc z.zs [(0, 1), (0, 2), (2, 1), (0, 3)] 2 (2, 1) w5 hi5.z (unhide HF) (by rw [unhide HPN]; exact pk_grow) (by rw [unhide HPN]; decide) rfl)
  clear F5 T4 hi4 hw4 hb5
  obtain ⟨c0, c1, c2, c3⟩ := T5
  rw [n4] at c3 F6
  go_wp2_with fail
  refine (unhide F6).mono ?_
  rintro e w6 ⟨rfl, hb6⟩
  have hw6 := bt hw5 hb6
  clear F6 c0 c1 c2 c3 hi5 hw5 hb6
  go_wp2_with fail
  refine (fcheck_any none 0 0 [] 17 w6 (liesN_none _) (fun z h => by cases h) (by decide) (hide (by decide))).mono ?_
  rintro e w7 ⟨rfl, hb7⟩
  go_wp2_with fail
  go_ret
  exact ⟨rfl, bt hw6 hb7⟩
end Go.Proofs.YtcjnhhbcleljmaaGreatDoor.Sb
