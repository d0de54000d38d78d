/- The walk of constablelaw04.SetsRise: it answers true, whatever the list. -/
import Derived.Test.YtmnonjacomabbaaSetX
import Derived.Test.YtmnonjacomabbaaSetN
namespace Go.Proofs.Ytmnonjacomabbaa
open Go.RowKit
open V

theorem of_nil_iff {l : List Fc} : (ofL cmpF l).length = 0 ↔ l.length = 0 := by
  constructor
  · intro h
    cases l with
    | nil => rfl
    | cons x r =>
      have := (mem_of ord_fact (x :: r) x).2 (by simp)
      rw [List.eq_nil_of_length_eq_zero h] at this
      simp at this
  · intro h
    rw [List.eq_nil_of_length_eq_zero h]; rfl

theorem Fb.New.set {B : Nat} {w : World} {f : Fb} (h : f.New B w) {g : Nat} (hne : (Value.slice f.a f.len f.cap).ownBlock ≠ some g) (o : Nat) (u : Value) : f.New B (w.setCell ⟨g, o, none⟩ u) := ⟨own_set h.own ⟨g, o, none⟩ u hne, h.len⟩
theorem MadeL.ne {B : Nat} {w : World} {g n cap : Nat} {gs : List Fb} (h : MadeL B w (.slice (some ⟨g, 0, none⟩) n cap) n gs) {f : Fb} (hf : f ∈ gs) : (Value.slice f.a f.len f.cap).ownBlock ≠ some g := by
  rcases own_ne h.own (h.new f hf).own (by decide) with e | e
  · rw [e]; simp
  · simpa [Value.ownBlock] using e

/-- The first two facts of a list, turned. -/
theorem turned_row {B : Nat} {w : World} {g n cap : Nat} {ts : List Fb} (h : MadeL B w (.slice (some ⟨g, 0, none⟩) n cap) n ts) (hB : B ≤ g) (h1 : 1 < ts.length) :
    RowF ((((w.setCell ⟨g, 0, none⟩ (.string ts[1].n)).setCell ⟨g, 1, none⟩ (.slice ts[1].a ts[1].len ts[1].cap)).setCell ⟨g, 2, none⟩ (.string ts[0].n)).setCell ⟨g, 3, none⟩ (.slice ts[0].a ts[0].len ts[0].cap)).drew (some ⟨g, 0, none⟩) ((ts.set 0 ts[1]).set 1 ts[0]) ∧
    Below B w ((((w.setCell ⟨g, 0, none⟩ (.string ts[1].n)).setCell ⟨g, 1, none⟩ (.slice ts[1].a ts[1].len ts[1].cap)).setCell ⟨g, 2, none⟩ (.string ts[0].n)).setCell ⟨g, 3, none⟩ (.slice ts[0].a ts[0].len ts[0].cap)).drew := by
  refine ⟨?_, ((((Below.refl B w).setCell (p := ⟨g, 0, none⟩) hB _).setCell (p := ⟨g, 1, none⟩) hB _).setCell (p := ⟨g, 2, none⟩) hB _ |>.setCell (p := ⟨g, 3, none⟩) hB _).drew⟩
  have o4 := ((((h.own.stored 0 (.string ts[1].n)).1.stored 1 (.slice ts[1].a ts[1].len ts[1].cap)).1.stored 2 (.string ts[0].n)).1.stored 3 (.slice ts[0].a ts[0].len ts[0].cap)).1
  have e1 := flatF_set ts 0 ts[1] (by omega)
  have e2 := flatF_set (ts.set 0 ts[1]) 1 ts[0] (by simpa using h1)
  simp only [Nat.zero_mul, Nat.zero_add, Nat.one_mul] at e1 e2
  rw [e1, e2] at o4
  refine rowF_own (own_drew o4) (by simp [h.len]) (fun f hf => ?_)
  have hm : f ∈ ts := by
    rcases List.mem_or_eq_of_mem_set hf with hf | rfl
    · rcases List.mem_or_eq_of_mem_set hf with hf | rfl
      · exact hf
      · exact List.getElem_mem _
    · exact List.getElem_mem _
  have hne := h.ne hm
  exact (in_drew f _).2 (((((h.new f hm).set hne 0 _).set hne 1 _).set hne 2 _).set hne 3 _).In
theorem turned_bad {ts : List Fb} (h1 : 1 < ts.length) (hR : Rise cmpF (ts.map Fb.l)) : setB (((ts.set 0 ts[1]).set 1 ts[0]).map Fb.l) = false := by
  have h2 : 0 + 1 < ((ts.set 0 ts[1]).set 1 ts[0]).length := by simpa using h1
  refine setB_fall h2 ?_
  have := (List.pairwise_iff_getElem.1 hR) 0 1 (by simp; omega) (by simpa using h1) (by omega)
  simp only [List.getElem_map] at this
  have an := ord_fact.anti ts[0].l ts[1].l
  simp only [List.getElem_set]
  simp
  omega
theorem twice_bad {us gs : List Fb} (hu : us.length = 1) (hg : 0 < gs.length) (h : us.map Fb.l = (gs.take 1).map Fb.l) : setB ((us ++ gs).map Fb.l) = false := by
  match us, gs, hu, hg with
  | [u], g :: r, _, _ =>
    have e : u.l = g.l := by simpa using h
    refine setB_fall (j := 0) (by simp) ?_
    show ¬ cmpF u.l g.l < 0
    rw [e, self_zero ord_fact]
    omega

set_option maxHeartbeats 8000000 in
set_option maxRecDepth 100000 in
theorem rise_law (al : Option Addr) (ll cl : Nat) (xs : List Fb) (w : World) (hx : RowF w al xs) (hlx : ll = xs.length) (nx : al = none → cl = 0) :
    Calls Try.prog 7 #[.slice al ll cl] w fun e w' => e = .returned (.bool true) ∧ Below w.heap.size w w' := by
  have hm1 := many_any al ll cl xs _ hx (by omega) (by omega)
  have HLX := hide hlx
  have NX := hide nx
  clear hlx nx
  go_enter Try.func7, Try.ntmps7
  go_wp2_with fail
  refine hm1.mono ?_
  rintro e w1 ⟨rfl | ⟨rfl, hl60, hLx⟩, hb1⟩
  · clear hm1
    go_wp2_with fail
    go_ret
    exact ⟨rfl, hb1⟩
  clear hm1
  go_wp2_with fail
  cases hal : (xs.map Fb.l).all rightF with
  | false =>
    refine (of_bad al ll cl xs w1 (hx.on hb1) (unhide HLX) (by omega) hLx (hide hal)).mono ?_
    rintro e w2 ⟨rfl, hb2⟩
    have hw2 := bt hb1 hb2
    clear hal
    go_wp2_with fail
    refine (wakes_any w2).mono ?_
    rintro e w3 ⟨rfl, hb3⟩
    have hw3 := bt hw2 hb3
    go_wp2_with fail
    go_ret
    exact ⟨rfl, hw3⟩
  | true =>
    refine (of_ok al ll cl xs w1 (hx.on hb1) (unhide HLX) (by omega) hLx (unhide NX) (hide hal)).mono ?_
    rintro e w2 ⟨a, n, c, gs, rfl, hT, hb2⟩
    have hw2 := bt hb1 hb2
    have HAL := hide hal
    have hlen := hT.lenl
    have hn60 : n ≤ 60 := by
      have h2 := len_of_le (l := xs.map Fb.l)
      simp only [List.length_map, ← unhide HLX] at h2
      omega
    have hnz : n = 0 ↔ ll = 0 := by
      have := of_nil_iff (l := xs.map Fb.l)
      rw [← hlen, List.length_map, ← unhide HLX] at this
      exact this
    have HNZ := hide hnz
    clear hnz
    have hR : Rise cmpF (gs.map Fb.l) := by rw [hT.eq]; exact rise_of ord_fact _
    have hS : setB (gs.map Fb.l) = true := by rw [hT.eq]; exact set_of (unhide HAL)
    have HR := hide hR
    have HS := hide hS
    have hcap := hT.cap
    have hn1 : n ≤ gs.length := by rw [hT.len]; omega
    have hn2 : gs.length ≤ n := by rw [← hT.len]; omega
    have HT := hide hT
    clear hal hT hlen hR hS hb2 hb1
    have hdr := in_drew
    go_wp2_with fail
    go_loopw [5] (fun i wr => ∃ k : Nat, 1 ≤ k ∧ k ≤ n + 1 ∧ i = .int .i64 k ∧ Below w2.heap.size w2 wr) (fun i _ => n + 1 - (intOf i).toNat)
    case atStart => exact ⟨1, Nat.le_refl _, by omega, rfl, Below.refl _ _⟩
    case round =>
      obtain ⟨k, hk1, hk, rfl, hbw⟩ := hrel
      by_cases hlt : k < n
      · obtain ⟨j, hjk⟩ : ∃ j, k = j + 1 := ⟨k - 1, by omega⟩
        have hrow := ((unhide HT).on hbw).row
        obtain ⟨b, o, ha, hbl, c0, c1, hin⟩ := hrow.up (show j < gs.length by omega)
        subst ha
        obtain ⟨b', o', ha', hbl', c0', c1', hin'⟩ := hrow.up (show k < gs.length by omega)
        simp only [Option.some.injEq, Addr.mk.injEq, and_true] at ha'
        obtain ⟨rfl, rfl⟩ := ha'
        have lf := (unhide HT).len1k gs[j] (List.getElem_mem (by omega))
        have e0 : (k : Int) - 1 = (j : Int) := by omega
        have e4 : IntKind.i64.wrap (j : Int) = (j : Int) := by simp [IntKind.wrap, IntKind.bits, IntKind.signed]; omega
        have e2 : (j : Int) < (n : Int) := by omega
        have e3 : (0 : Int) ≤ (j : Int) := by omega
        have HX : Hid (cmpF gs[j].l gs[k].l = -1) := by
          refine hide ?_
          have := (List.pairwise_iff_getElem.1 (unhide HR)) j k (by simp; omega) (by simp; omega) (by omega)
          simpa using this
        generalize gs[j] = x at c0 c1 hin lf HX
        generalize gs[k] = y at c0' c1' hin' HX
        clear hjk hrow
        go_wp2_with fail
        go_region_held3 (fun w' => w'.cell? ⟨b, o + j * 2, none⟩ = some (.string x.n) ∧ w'.cell? ⟨b, o + j * 2 + 1, none⟩ = some (.slice x.a x.len x.cap) ∧ w'.cell? ⟨b, o + k * 2, none⟩ = some (.string y.n) ∧ w'.cell? ⟨b, o + k * 2 + 1, none⟩ = some (.slice y.a y.len y.cap) ∧ x.In w' ∧ y.In w') (go_keep) (first | (go_at_call 27; refine (compare_xk _ _ (-1) _ (by simp [*]) (by simp [*]) lf HX).mono ?_; rintro e w' ⟨rfl, hb, hk', hi⟩))
        have hbw' : Below w2.heap.size w2 w' := bt hbw.drew hb
        clear c0 c1 c0' c1' hi hk' e0 e4 e2 e3 hin hin'
        go_wp2_with fail
        go_roundw
        case rel => exact ⟨k + 1, by omega, by omega, by go_num, hbw'⟩
        case measure => simp [intOf]; omega
      · have hT := (unhide HT).on hbw
        have hww := bt hw2 hbw
        have HT' := hide hT
        clear hT hbw HT hdr
        by_cases h2 : n < 2
        · by_cases h0 : n = 0
          · have hll : ll = 0 := (unhide HNZ).1 h0
            subst h0
            subst hll
            clear HLX
            go_wp2_with fail
            refine (wakes_any wr).mono ?_
            rintro e w3 ⟨rfl, hb3⟩
            have hw3 := bt hww hb3
            go_wp2_with fail
            go_ret
            exact ⟨rfl, hw3⟩
          · have hll : ¬ ll = 0 := fun h => h0 ((unhide HNZ).2 h)
            have d1 : ((ll : Int) == 0) = false := by simp; omega
            have hn1' : n = 1 := by omega
            subst hn1'
            clear h0
            go_wp2_with fail
            refine (wakes_any wr).mono ?_
            rintro e w3 ⟨rfl, hb3⟩
            have hw3 := bt hww hb3
            go_wp2_with fail
            go_ret
            exact ⟨rfl, hw3⟩
        · have T := unhide HT'
          have htw := twins_any a n c gs wr T.row hn1 hn2 (by omega) T.light T.nils
          clear T
          have hd2 : decide ((n : Int) < 2) = false := by simp; omega
          go_wp2_with fail
          refine htw.mono ?_
          rintro e w3 ⟨ta, tn, tc, ts, rfl, hU, hb3⟩
          clear htw
          have hw3 := bt hww hb3
          have htn : tn = n := by rw [hU.lenl, List.length_map]; omega
          subst htn
          rcases shape_own hU.made.own with h0 | ⟨g, cur, ha, hB, hg, hs⟩
          · omega
          subst ha
          have hl2 : 1 < ts.length := by have := hU.len; omega
          obtain ⟨p0, p1, pin⟩ := hU.row.at (i := 0) (f := ts[0]) (by simp)
          obtain ⟨q0, q1, qin⟩ := hU.row.at (i := 1) (f := ts[1]) (by simp)
          simp only [Nat.zero_mul, Nat.zero_add, Nat.one_mul] at p0 p1 q0 q1
          have z0 : w3.frozen? ⟨g, 0, none⟩ = false := Lib.frozen_of_heap hg _
          have z1 : w3.frozen? ⟨g, 1, none⟩ = false := Lib.frozen_of_heap hg _
          have z2 : w3.frozen? ⟨g, 2, none⟩ = false := Lib.frozen_of_heap hg _
          have z3 : w3.frozen? ⟨g, 3, none⟩ = false := Lib.frozen_of_heap hg _
          have i1 : (1 : Int) < (tn : Int) := by omega
          have i2 : (0 : Int) < (tn : Int) := by omega
          go_wp2_with fail
          go_region
          obtain ⟨hRt, hb34⟩ := turned_row hU.made hB hl2
          have hbt : setB (((ts.set 0 ts[1]).set 1 ts[0]).map Fb.l) = false := turned_bad hl2 (by rw [hU.eq]; exact unhide HR)
          have hLt : ∀ f ∈ (ts.set 0 ts[1]).set 1 ts[0], f.Light := by
            intro f hf
            rcases List.mem_or_eq_of_mem_set hf with hf | rfl
            · rcases List.mem_or_eq_of_mem_set hf with hf | rfl
              · exact hU.light f hf
              · exact hU.light _ (List.getElem_mem _)
            · exact hU.light _ (List.getElem_mem _)
          have hlt' : ((ts.set 0 ts[1]).set 1 ts[0]).length = tn := by simp [hU.len]
          have hr4 := hb3.trans hb34
          generalize ((((w3.setCell ⟨g, 0, none⟩ (.string ts[1].n)).setCell ⟨g, 1, none⟩ (.slice ts[1].a ts[1].len ts[1].cap)).setCell ⟨g, 2, none⟩ (.string ts[0].n)).setCell ⟨g, 3, none⟩ (.slice ts[0].a ts[0].len ts[0].cap)).drew = w4 at hRt hr4 ⊢
          generalize (ts.set 0 ts[1]).set 1 ts[0] = ts' at hRt hbt hLt hlt'
          have HBT := hide hbt
          have HLT := hide hlt'
          have hRw := (unhide HT').on hr4
          rcases shape_own hRw.made.own with h0 | ⟨ga, cura, ha, hBa, hga, hsa⟩
          · omega
          subst ha
          have hV := twins_any (some ⟨ga, 0, none⟩) 1 c (gs.take 1) w4 (rowF_take hRw.row 1) (by simp; omega) (by simp; omega) (by omega) (fun f hf => hRw.light f (List.mem_of_mem_take hf)) (fun f hf => hRw.nils f (List.mem_of_mem_take hf))
          clear hU hb34 hb3 hlt' hbt p0 p1 pin q0 q1 qin z0 z1 z2 z3 hB hg hs hw3 hRw hga hsa
          have i3 : (1 : Int) ≤ (c : Int) := by omega
          go_wp2_with fail
          refine hV.mono ?_
          rintro e w5 ⟨ua, un, uc, us, rfl, hU, hb5⟩
          have hun : un = 1 := by rw [hU.lenl, List.length_map, List.length_take]; omega
          subst hun
          have hr5 := bt hr4 hb5
          have hRw5 := (unhide HT').on hr5
          have hcs : Hid (∀ (j : Nat) (u : Value), (flatF gs)[j]? = some u → w5.cell? ((⟨ga, 0, none⟩ : Addr).add j) = some u) := by
            refine hide ?_
            intro j u hu
            rw [WideShapes.add_plain]
            refine flatF_cells gs (o := 0) (fun i f hf => ?_) j u hu
            obtain ⟨y0, y1, _⟩ := hRw5.row.at hf
            rw [Nat.zero_add]
            exact ⟨y0, y1⟩
          have HU := hide hU
          clear hV hRw5
          obtain ⟨i0, hi, hz0, hz1, hz2⟩ := info_parts infoF
          go_wp2_with (at_builtin; refine wpList_append_own_wide _ rfl _ _ 22 rfl w4.heap.size 25 i0 (.agg #[.string ⟨#[]⟩, .slice none 0 0]) 2 40 Try.underlying22 hi hz0 hz1 hz2 rfl (by decide) _ 1 (flatF us) rfl (unhide HU).made.own ⟨ga, 0, none⟩ tn c (flatF gs) rfl ?c0 ?c1 ?c2 ?c3 ?c4 ?c5 ?_)
          case c0 => rw [flatF_len]; omega
          case c1 => exact unhide hcs
          case c2 => exact flatF_oneCell gs
          case c3 => unfold maxLen; omega
          case c4 => omega
          case c5 => exact hb5.size
          intro v' w6 hown6 hgrow hnil6
          obtain ⟨va, vc, rfl⟩ := own_slice hown6
          have hU := unhide HU
          have hb56 : Below w4.heap.size w5 w6 := (Below.refl _ _).grown hgrow hb5.size (fun m hm => (hU.made.own.lt m hm).1)
          have hr6 : Below wr.heap.size wr w6 := hr4.trans ((hb5.trans hb56).mono hr4.size)
          have hRt6 := hRt.on (hb5.trans hb56)
          have hus1 : us.length = 1 := by have := hU.len; omega
          have hVr : RowF w6 va (us ++ gs) := by
            rw [← flatF_app] at hown6
            refine rowF_own hown6 (by simp; omega) (fun f hf => ?_)
            rcases List.mem_append.1 hf with hf | hf
            · have hn := hU.made.new f hf
              exact Fb.New.In (B := w4.heap.size) ⟨hn.own.kept hgrow (own_ne hU.made.own hn.own (by decide)), hn.len⟩
            · exact ((unhide HT').row.1 f hf).on hr6
          have hbv : setB ((us ++ gs).map Fb.l) = false := twice_bad hus1 (by omega) hU.eq
          have hLv : ∀ f ∈ us ++ gs, f.Light := by
            intro f hf
            rcases List.mem_append.1 hf with hf | hf
            · exact hU.light f hf
            · exact (unhide HT').light f hf
          have hlv : 1 + tn = (us ++ gs).length := by simp; omega
          have HLV := hide hlv
          have hRa := (unhide HT').on hr6
          have hw6 := bt hww hr6
          have hg0 : 0 < gs.length := by omega
          obtain ⟨x0, x1, xin⟩ := hRa.row.at (i := 0) (f := gs[0]) (by simp [hg0])
          simp only [Nat.zero_mul, Nat.zero_add] at x0 x1
          have hx0L := (unhide HT').light gs[0] (List.getElem_mem hg0)
          generalize gs[0] = f0 at x0 x1 xin hx0L
          have hP := put_bad (some ⟨g, 0, none⟩) tn tc ts' f0 1 (chk (rightF f0.l)) w6 hRt6 xin (by rw [unhide HLT]; omega) (by rw [unhide HLT]; omega) (by omega) hLt hx0L (hide (chk_f (unhide HBT))) (hide rfl) (hide (by simp [or2]))
          have hC1 := fun W (hb : Below w6.heap.size w6 W) => scheck_x (some ⟨g, 0, none⟩) tn tc ts' 1 W (hRt6.on hb) (by rw [unhide HLT]; omega) (by rw [unhide HLT]; omega) (by omega) hLt (hide (chk_f (unhide HBT)))
          have hC2 := fun W (hb : Below w6.heap.size w6 W) => scheck_x va (1 + tn) vc (us ++ gs) 1 W (hVr.on hb) (by rw [← unhide HLV]; omega) (by rw [← unhide HLV]; omega) (by omega) hLv (hide (chk_f hbv))
          have hC3 := fun W (hb : Below w6.heap.size w6 W) => scheck_x (some ⟨ga, 0, none⟩) tn c gs 0 W (hRa.on hb).row hn1 hn2 (by omega) hRa.light (hide (chk_t (unhide HS)))
          have hC4 := fun W (hb : Below w6.heap.size w6 W) => refSet_any (some ⟨ga, 0, none⟩) tn c gs true W (hRa.on hb).row hn1 hn2 (by omega) hRa.light (hide (unhide HS))
          have hBB := fun W (hb : Below w6.heap.size w6 W) => both_bad (some ⟨ga, 0, none⟩) va tn c (1 + tn) vc gs (us ++ gs) W (hRa.on hb).row (hVr.on hb) (by omega) (unhide HLV) (by omega) (by omega) hRa.light hLv (hide (by rw [hbv, Bool.and_false]))
          clear hgrow hnil6 hcs hU HU hb5 hb56 hr5 hr4 hown6 hbv hlv hRa hRt hRt6 hVr hLv hLt hus1 HLV HLT HBT hx0L xin
          go_wp2_with fail
          refine hP.mono ?_
          rintro e w7 ⟨rfl, hb7⟩
          have hB7 := hBB w7 hb7
          clear hP hBB x0 x1
          go_wp2_with fail
          refine hB7.mono ?_
          rintro e w8 ⟨rfl, hb8⟩
          have hb68 := bt hb7 hb8
          have hc3 := hC3 w8 hb68
          clear hB7 hC3 hb7 hb8
          go_wp2_with fail
          refine hc3.mono ?_
          rintro e w9 ⟨rfl, hb9⟩
          have hb69 := bt hb68 hb9
          have hc1 := hC1 w9 hb69
          clear hc3 hC1 hb68 hb9
          go_wp2_with fail
          refine hc1.mono ?_
          rintro e w10 ⟨rfl, hb10⟩
          have hb610 := bt hb69 hb10
          have hc2 := hC2 w10 hb610
          clear hc1 hC2 hb69 hb10
          go_wp2_with fail
          refine hc2.mono ?_
          rintro e w11 ⟨rfl, hb11⟩
          have hb611 := bt hb610 hb11
          have hc4 := hC4 w11 hb611
          clear hc2 hC4 hb610 hb11
          go_wp2_with fail
          refine hc4.mono ?_
          rintro e w12 ⟨rfl, hb12⟩
          have hb612 := bt hb611 hb12
          clear hc4 hb611 hb12
          go_wp2_with fail
          refine (wakes_any w12).mono ?_
          rintro e w13 ⟨rfl, hb13⟩
          have hfin := bt hw6 (bt hb612 hb13)
          clear hb612 hb13
          go_wp2_with fail
          go_ret
          exact ⟨rfl, hfin⟩
end Go.Proofs.Ytmnonjacomabbaa
