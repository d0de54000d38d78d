/- The walks of constablelaw04.SetsExact: where the list is a set and the fact is right, or the other list is a set. -/
import Derived.Test.YtmnonjacomabbaaSetV
namespace Go.Proofs.Ytmnonjacomabbaa
open Go.RowKit
open V

set_option maxHeartbeats 16000000 in
set_option maxRecDepth 100000 in
theorem exact_ttft (al am : Option Addr) (ll cl lm cm : Nat) (xs ys : List Fb) (f : Fb) (w : World) (hx : RowF w al xs) (hy : RowF w am ys) (hlx : ll = xs.length) (hly : lm = ys.length) (nx : ∀ f ∈ xs, f.a = none → f.cap = 0) (ny : ∀ f ∈ ys, f.a = none → f.cap = 0) (nm : am = none → cm = 0) (hf : f.In w)
    (Hp : Hid ((xs.map Fb.l).all rightF = true)) (H1 : Hid (setB (xs.map Fb.l) = true)) (HF : Hid (rightF f.l = false)) (H2 : Hid (setB (ys.map Fb.l) = true)) :
    Calls Try.prog 3 #[.slice al ll cl, .slice am lm cm, .agg #[.string f.n, .slice f.a f.len f.cap]] w fun e w' => e = .returned (.bool true) ∧ Below w.heap.size w w' := by
  have hba : Below w.heap.size w (w.alloc (bxO f)) := (Below.refl _ _).alloc (Nat.le_refl _) _
  obtain ⟨j0, j1⟩ := pair_of (heap_alloc_new w (bxO f))
  have hm1 := many_any al ll cl xs _ (hx.on hba) (by omega) (by omega)
  have hm2 := fun W hb => many_any am lm cm ys W (hy.on hb) (by omega) (by omega)
  have hx1 : ll ≤ xs.length := by omega
  have hx2 : xs.length ≤ ll := by omega
  have hy1 : lm ≤ ys.length := by omega
  have hy2 : ys.length ≤ lm := by omega
  have HLX := hide hlx
  have HLY := hide hly
  have NX := hide nx
  have NY := hide ny
  have NM := hide nm
  clear hlx hly nx ny nm
  go_enter Try.func3, Try.ntmps3
  go_wp2_with fail
  refine hm1.mono ?_
  rintro e w1 ⟨rfl | ⟨rfl, hl60, hLx⟩, hb1⟩
  · have hw1 := bt hba hb1
    clear hm1 hm2 j0 j1
    go_wp2_with fail
    go_ret
    exact ⟨rfl, hw1⟩
  have hm2' := hm2 w1 (bt hba hb1)
  have i0 := cell_on hb1 j0
  have i1 := cell_on hb1 j1
  have hw1 := bt hba hb1
  clear hm1 hm2 hba hb1 j0 j1
  go_wp2_with fail
  refine hm2'.mono ?_
  rintro e w2 ⟨rfl | ⟨rfl, hm60, hLy⟩, hb2⟩
  · have hw2 := bt hw1 hb2
    clear hm2' i0 i1
    go_wp2_with fail
    go_ret
    exact ⟨rfl, hw2⟩
  have hh := heavy_fb f w2 (hf.on (bt hw1 hb2))
  have j0 := cell_on hb2 i0
  have j1 := cell_on hb2 i1
  have hw2 := bt hw1 hb2
  clear hm2' hw1 hb2 i0 i1
  go_wp2_with fail
  refine hh.mono ?_
  rintro e w3 ⟨rfl | ⟨rfl, lf⟩, hb3⟩
  · have hw3 := bt hw2 hb3
    clear hh j0 j1
    go_wp2_with fail
    go_ret
    exact ⟨rfl, hw3⟩
  have i0 := cell_on hb3 j0
  have i1 := cell_on hb3 j1
  have hw3 := bt hw2 hb3
  clear hh hw2 hb3 j0 j1
  have ht1 := twins_any al ll cl xs w3 (hx.on hw3) hx1 hx2 (by omega) hLx (unhide NX)
  go_wp2_with fail
  refine ht1.mono ?_
  rintro e w4 ⟨ta, tn, tc, ts, rfl, TA, hb4⟩
  have hw4 := bt hw3 hb4
  have j0 := cell_on hb4 i0
  have j1 := cell_on hb4 i1
  have ht2 := twins_any am lm cm ys w4 (hy.on hw4) hy1 hy2 (by omega) hLy (unhide NY)
  have HTA := hide TA
  clear ht1 TA hw3 i0 i1
  go_wp2_with fail
  refine ht2.mono ?_
  rintro e w5 ⟨tb, un, uc, us, rfl, TB, hb5⟩
  have hw5 := bt hw4 hb5
  have c0 := cell_on hb5 j0
  have c1 := cell_on hb5 j1
  have TA := (unhide HTA).on hb5
  have ht60 : tn ≤ 60 := by rw [TA.lenl, List.length_map]; omega
  have hu60 : un ≤ 60 := by rw [TB.lenl, List.length_map]; omega
  have HTA5 := hide TA
  have HTB5 := hide TB
  have hO := of_any true ta tn tc ts w5 TA.row TA.len (by omega) TA.light TA.nil (by rw [TA.eq]; exact unhide Hp)
  clear ht2 TA TB HTA hw4 hb4 hb5 j0 j1
  go_wp2_with fail
  refine hO.mono ?_
  rintro e w6 ⟨oa, on, oc, os, rfl, TO, hb6⟩
  rw [show chk true = 0 from rfl]
  have eO : os.map Fb.l = ofL cmpF (xs.map Fb.l) := by rw [TO.eq]; rw [(unhide HTA5).eq]; rfl
  have EO := hide eO
  have HTO := hide TO
  have lO : on ≤ 60 := by
    have h1 := TO.len
    have h2 := congrArg List.length eO
    have h3 := len_of_le (l := xs.map Fb.l)
    simp only [List.length_map] at h2 h3
    omega
  have i0 := cell_on hb6 c0
  have i1 := cell_on hb6 c1
  have h56 := hb6
  have TA := (unhide HTA5).on h56
  have hP := put_any true false ta tn tc ts f w6 TA.row (hf.on (bt hw5 h56)) TA.len (by omega) TA.cap TA.light lf (by rw [TA.eq]; exact unhide H1) (unhide HF)
  clear hO TO eO TA c0 c1
  go_wp2_with fail
  refine hP.mono ?_
  rintro e w7 ⟨pa, pn, pc, ps, rfl, TP, hb7⟩
  rw [show chk (true && false) = 1 from rfl]
  have eP : ps.map Fb.l = [] := by rw [TP.eq]; rfl
  have EP := hide eP
  have HTP := hide TP
  have lP : pn ≤ 61 := by
    have h1 := TP.len
    have h2 := congrArg List.length eP
    
    simp only [List.length_map, List.length_nil] at h2
    omega
  have c0 := cell_on hb7 i0
  have c1 := cell_on hb7 i1
  have h57 := bt h56 hb7
  have TA := (unhide HTA5).on h57
  have hD := drop_any true false ta tn tc ts f w7 TA.row (hf.on (bt hw5 h57)) TA.len (by omega) TA.cap TA.light lf (by rw [TA.eq]; exact unhide H1) (unhide HF)
  have pn0 : pn = 0 := by
    have h1 := TP.len
    have h2 := congrArg List.length eP
    simp only [List.length_map, List.length_nil] at h2
    omega
  subst pn0
  clear hP TP eP TA i0 i1
  go_wp2_with fail
  refine hD.mono ?_
  rintro e w8 ⟨da, dn, dc, ds, rfl, TD, hb8⟩
  rw [show chk (true && false) = 1 from rfl]
  have eD : ds.map Fb.l = [] := by rw [TD.eq]; rfl
  have ED := hide eD
  have HTD := hide TD
  have lD : dn ≤ 61 := by
    have h1 := TD.len
    have h2 := congrArg List.length eD
    
    simp only [List.length_map, List.length_nil] at h2
    omega
  have i0 := cell_on hb8 c0
  have i1 := cell_on hb8 c1
  have h58 := bt h57 hb8
  have TA := (unhide HTA5).on h58
  have TB := (unhide HTB5).on h58
  have hB := both_any true true ta tb tn tc un uc ts us w8 TA.row TB.row TA.len TB.len (by omega) (by omega) TA.light TB.light TA.nil TB.nil (by rw [TA.eq]; exact unhide H1) (by rw [TB.eq]; exact unhide H2)
  have dn0 : dn = 0 := by
    have h1 := TD.len
    have h2 := congrArg List.length eD
    simp only [List.length_map, List.length_nil] at h2
    omega
  subst dn0
  clear hD TD eD TA TB c0 c1
  go_wp2_with fail
  refine hB.mono ?_
  rintro e w9 ⟨ba, bn, bc, bs, rfl, TZ, hb9⟩
  rw [show chk (true && true) = 0 from rfl]
  have eZ : bs.map Fb.l = ofL cmpF (xs.map Fb.l ++ ys.map Fb.l) := by rw [TZ.eq]; rw [(unhide HTA5).eq, (unhide HTB5).eq]; rfl
  have EZ := hide eZ
  have HTZ := hide TZ
  have lZ : bn ≤ 120 := by
    have h1 := TZ.len
    have h2 := congrArg List.length eZ
    have h3 := len_of_le (l := xs.map Fb.l ++ ys.map Fb.l)
    simp only [List.length_map, List.length_append] at h2 h3
    omega
  have c0 := cell_on hb9 i0
  have c1 := cell_on hb9 i1
  have h59 := bt h58 hb9
  have TA := (unhide HTA5).on h59
  have hw9 := bt hw5 h59
  obtain ⟨q, hq⟩ : ∃ q, decide (f.l ∈ xs.map Fb.l) = q := ⟨_, rfl⟩
  have F1 := cls (wr := w9) (fun W hb => has_any ta tn tc ts f q W (TA.on hb).row (hf.on (bt hw9 hb)) (by rw [TA.len]; omega) (by rw [← TA.len]; omega) (by omega) TA.len1k (hide (by rw [TA.eq]; exact hq)))
  have F2 := cls (wr := w9) (fun W hb => refHas_any al ll cl xs f q W (hx.on (bt hw9 hb)) (hf.on (bt hw9 hb)) hx1 hx2 (by omega) (fun g hg => by have := (hLx g hg).len; omega) (hide hq))
  have m0 := cell_regrown c0
  have m1 := cell_regrown c1
  have hqq : (q != q) = false := by simp
  clear hB TZ eZ TA i0 i1 hq
  go_wp2_with fail
  refine wp_region_quiet_below (by kernel_rfl) (by kernel_rfl) ?_
  repeat (go_big_quiet_step (first | with_reducible exact F1 _ _ | with_reducible exact F2 _ _))
  refine wpQuiet_nil ?_
  intro _ hw'
  obtain ⟨⟨dq, osq⟩, hw''⟩ := hw'
  subst hw''
  have hb10 := below_regrown w9 dq osq
  have i0 := cell_on hb10 c0
  have i1 := cell_on hb10 c1
  clear F1 F2 m0 m1 c0 c1
  generalize Sort.grow (redrawn w9 dq) osq = w10 at hb10 i0 i1 ⊢
  have h910 := hb10
  clear hb10
  go_wp2_with fail
  go_loopw [17, 18] (fun v i wr => ∃ (k : Nat) (bb : Bool), k ≤ ll ∧ i = .int .i64 k ∧ v = .bool bb ∧ Hid (((xs.take k).map Fb.l).all rightF = bb) ∧ Below w10.heap.size w10 wr) (fun _ i _ => ll - (intOf i).toNat)
  case atStart => exact ⟨0, true, Nat.zero_le _, rfl, rfl, hide rfl, Below.refl _ _⟩
  case round =>
    obtain ⟨k, bb, hk, rfl, rfl, HB, hbw⟩ := hrel
    by_cases hlt : k < ll
    · have hrow := hx.on (bt hw9 (bt h910 hbw))
      obtain ⟨b, o, ha, hbl, d0, d1, hin⟩ := hrow.up (show k < xs.length by omega)
      subst ha
      have lx := hLx xs[k] (List.getElem_mem (by omega))
      have HE : Hid (∀ z, rightF xs[k].l = z → ((xs.take (k + 1)).map Fb.l).all rightF = (bb && z)) := by
        refine hide (fun z hz => ?_)
        rw [take_l xs k (by omega), List.all_append, unhide HB]
        simp [hz]
      obtain ⟨z, hz⟩ : ∃ z, rightF xs[k].l = z := ⟨_, rfl⟩
      have HN := hide (unhide HE z hz)
      have HZ := hide hz
      clear HE hz hrow
      generalize xs[k] = x at d0 d1 hin lx HZ
      cases bb with
      | true =>
        rw [Bool.true_and] at HN
        have hr := refFact_q x z wr hin lx HZ
        go_wp2_with fail
        refine hr.mono ?_
        rintro e wq ⟨rfl, hbq⟩
        have hbw' := bt hbw hbq
        clear hr d0 d1 hin
        go_wp2_with fail
        go_roundw
        case rel => exact ⟨k + 1, z, by omega, by go_num, rfl, HN, hbw'⟩
        case measure => simp [intOf]; omega
      | false =>
        rw [Bool.false_and] at HN
        clear d0 d1 hin
        go_wp2_with fail
        go_roundw
        case rel => exact ⟨k + 1, false, by omega, by go_num, rfl, HN, hbw⟩
        case measure => simp [intOf]; omega
    · have hbb : bb = true := by
        have h := unhide HB
        rw [List.take_of_length_le (by omega)] at h
        rw [← h]; exact unhide Hp
      subst hbb
      have j0 := cell_on hbw i0
      have j1 := cell_on hbw i1
      have h9r := bt h910 hbw
      have hwr := bt hw9 h9r
      clear HB hbw h910 i0 i1
      go_wp2_with fail
      refine (refOf_any al ll cl xs wr (hx.on hwr) hx1 hx2 (by omega) hLx).mono ?_
      rintro e w19 ⟨va, vn, vc, vs, rfl, TV, hbc⟩
      have h9r' := bt h9r hbc
      have hwr' := bt hwr hbc
      have j0' := cell_on hbc j0
      have j1' := cell_on hbc j1
      clear h9r hwr j0 j1 hbc
      have h9r := h9r'
      have hwr := hwr'
      have j0 := j0'
      have j1 := j1'
      clear h9r' hwr' j0' j1'
      have hK := keepFacts_t oa va on oc vn vc os vs w19 ((unhide HTO).on (bt (bt (bt hb7 hb8) hb9) h9r)).row TV.row (unhide HTO).len TV.len (by omega) (unhide HTO).len1k (by rw [unhide EO, TV.eq])
      clear TV
      go_wp2_with fail
      refine (hK).mono ?_
      rintro e w21 ⟨rfl, hbc⟩
      have h9r' := bt h9r hbc
      have hwr' := bt hwr hbc
      have j0' := cell_on hbc j0
      have j1' := cell_on hbc j1
      clear h9r hwr j0 j1 hbc
      have h9r := h9r'
      have hwr := hwr'
      have j0 := j0'
      have j1 := j1'
      clear h9r' hwr' j0' j1'
      clear hK
      go_wp2_with fail
      refine (refSet_any al ll cl xs true w21 (hx.on hwr) hx1 hx2 (by omega) hLx H1).mono ?_
      rintro e w22 ⟨rfl, hbc⟩
      have h9r' := bt h9r hbc
      have hwr' := bt hwr hbc
      have j0' := cell_on hbc j0
      have j1' := cell_on hbc j1
      clear h9r hwr j0 j1 hbc
      have h9r := h9r'
      have hwr := hwr'
      have j0 := j0'
      have j1 := j1'
      clear h9r' hwr' j0' j1'
      go_wp2_with fail
      refine (refFact_q f false w22 (hf.on hwr) lf HF).mono ?_
      rintro e w23 ⟨rfl, hbc⟩
      have h9r' := bt h9r hbc
      have hwr' := bt hwr hbc
      have j0' := cell_on hbc j0
      have j1' := cell_on hbc j1
      clear h9r hwr j0 j1 hbc
      have h9r := h9r'
      have hwr := hwr'
      have j0 := j0'
      have j1 := j1'
      clear h9r' hwr' j0' j1'
      go_wp2_with fail
      refine (refSet_any am lm cm ys true w23 (hy.on hwr) hy1 hy2 (by omega) hLy H2).mono ?_
      rintro e w24 ⟨rfl, hbc⟩
      have h9r' := bt h9r hbc
      have hwr' := bt hwr hbc
      have j0' := cell_on hbc j0
      have j1' := cell_on hbc j1
      clear h9r hwr j0 j1 hbc
      have h9r := h9r'
      have hwr := hwr'
      have j0 := j0'
      have j1 := j1'
      clear h9r' hwr' j0' j1'
      go_wp2_with fail
      refine (scheck_x ta tn tc ts 0 w24 ((unhide HTA5).on (bt h59 h9r)).row (by rw [(unhide HTA5).len]; omega) (by rw [← (unhide HTA5).len]; omega) (by omega) (unhide HTA5).light (hide (by rw [(unhide HTA5).eq, unhide H1]; rfl))).mono ?_
      rintro e w25 ⟨rfl, hbc⟩
      have h9r' := bt h9r hbc
      have hwr' := bt hwr hbc
      have j0' := cell_on hbc j0
      have j1' := cell_on hbc j1
      clear h9r hwr j0 j1 hbc
      have h9r := h9r'
      have hwr := hwr'
      have j0 := j0'
      have j1 := j1'
      clear h9r' hwr' j0' j1'
      have ht3 := twins_any al ll cl xs w25 (hx.on hwr) hx1 hx2 (by omega) hLx (unhide NX)
      go_wp2_with fail
      refine ht3.mono ?_
      rintro e w40 ⟨va, vn, vc, vs, rfl, TV, hbc⟩
      have h9r' := bt h9r hbc
      have hwr' := bt hwr hbc
      clear ht3
      have hv60 : vn ≤ 60 := by rw [TV.lenl, List.length_map]; omega
      have HTV := hide TV
      clear TV
      obtain ⟨M1, B1⟩ := both_facts hv60 hm60
      obtain ⟨i0, hi, hz0, hz1, hz2⟩ := info_parts infoF
      have HBC := hide hbc
      have hyr := hy.on hwr'
      have HRO : Hid (∀ (W : World) (q : Option Addr) (m c : Nat), W.ownsRow w25.heap.size 25 2 (.slice q m c) m (flatF vs ++ flatF ys) → m = vn + lm → w40.grownBy W (Value.slice va vn vc).ownBlock → RowF W q (vs ++ ys) ∧ m = (vs ++ ys).length ∧ (∀ g ∈ vs ++ ys, g.Light) ∧ Below w25.heap.size w25 W) := by
        refine hide (fun W q m c ho hm hg => ?_)
        have hbb : Below w25.heap.size w25 W := (unhide HBC).grown hg (unhide HBC).size (fun k hk => ((unhide HTV).made.own.lt k hk).1)
        rw [← flatF_app] at ho
        have hml : m = (vs ++ ys).length := by rw [hm, List.length_append, ← (unhide HTV).len, ← unhide HLY]
        refine ⟨rowF_own ho hml (fun g hgm => ?_), hml, fun g hgm => ?_, hbb⟩
        · rcases List.mem_append.1 hgm with h | h
          · have hn := (unhide HTV).made.new g h
            exact Fb.New.In (B := w25.heap.size) ⟨hn.own.kept hg (own_ne (unhide HTV).made.own hn.own (by decide)), hn.len⟩
          · exact (hy.1 g h).on (bt hwr hbb)
        · rcases List.mem_append.1 hgm with h | h
          · exact (unhide HTV).light g h
          · exact hLy g h
      have HEQ : Hid (ofL cmpF ((vs ++ ys).map Fb.l) = ofL cmpF (xs.map Fb.l ++ ys.map Fb.l)) := hide (by rw [List.map_append, (unhide HTV).eq])
      cases am with
      | none =>
        have hlm0 : lm = 0 := by
          rcases hy.2 with h | ⟨b, o, h, _⟩
          · have := unhide HLY; rw [h] at this; simpa using this
          · cases h
        have hcm0 := unhide NM rfl
        subst hlm0 hcm0
        go_wp2_with (at_builtin; refine append_guard_none (by rfl) _ _ 22 rfl w25.heap.size 25 i0 2 Try.underlying22 hi _ vn (flatF vs) rfl (unhide HTV).made.own rfl ?_)
        have hys : ys = [] := List.eq_nil_of_length_eq_zero (Nat.le_zero.1 hy2)
        obtain ⟨r1, r2, r3, r4⟩ := unhide HRO w40 va vn vc (by rw [hys, show flatF ([] : List Fb) = [] from rfl, List.append_nil]; exact (unhide HTV).made.own) rfl ⟨rfl, rfl, rfl, Nat.le_refl _, fun _ _ _ => rfl⟩
        have hRf := refOf_any va vn vc (vs ++ ys) w40 r1 (Nat.le_of_eq r2) (Nat.le_of_eq r2.symm) (Nat.le_trans hv60 (by decide)) r3
        rw [unhide HEQ] at hRf
        have h4 := r4
        clear r1 r2 r3 r4 HRO HEQ hys M1 B1
        clear HBC hyr HTV hbc h9r' hwr' hi hz0 hz1 hz2
        have h9r1 := bt h9r h4
        have hwr1 := bt hwr h4
        have j01 := cell_on h4 j0
        have j11 := cell_on h4 j1
        clear h9r hwr j0 j1 h4
        have h9r := h9r1
        have hwr := hwr1
        have j0 := j01
        have j1 := j11
        clear h9r1 hwr1 j01 j11
        go_wp2_with fail
        refine hRf.mono ?_
        rintro e w51 ⟨va2, vn2, vc2, vs2, rfl, TV2, hbc⟩
        have h9r' := bt h9r hbc
        have hwr' := bt hwr hbc
        have j0' := cell_on hbc j0
        have j1' := cell_on hbc j1
        clear h9r hwr j0 j1 hbc hRf
        have h9r := h9r'
        have hwr := hwr'
        have j0 := j0'
        have j1 := j1'
        clear h9r' hwr' j0' j1'
        have hK := keepFacts_t ba va2 bn bc vn2 vc2 bs vs2 w51 ((unhide HTZ).on h9r).row TV2.row (unhide HTZ).len TV2.len (by omega) (unhide HTZ).len1k (by rw [unhide EZ, TV2.eq])
        clear TV2
        go_wp2_with fail
        refine (hK).mono ?_
        rintro e w26 ⟨rfl, hbc⟩
        have h9r' := bt h9r hbc
        have hwr' := bt hwr hbc
        have j0' := cell_on hbc j0
        have j1' := cell_on hbc j1
        clear h9r hwr j0 j1 hbc
        have h9r := h9r'
        have hwr := hwr'
        have j0 := j0'
        have j1 := j1'
        clear h9r' hwr' j0' j1'
        clear hK
        have hS1 := spoil2_told w6 w26 (unhide HTO) (Nat.le_refl _) ((unhide HTO).on (bt (bt (bt hb7 hb8) hb9) h9r)) (by omega)
        go_wp2_with fail
        refine hS1.mono ?_
        rintro e w41 ⟨rfl, s1⟩
        have P1 := ((unhide HTP).on (bt (bt hb8 hb9) h9r)).sw s1 (Nat.le_refl _)
        have D1 := ((unhide HTD).on (bt hb9 h9r)).sw s1 hb7.size
        have Z1 := ((unhide HTZ).on h9r).sw s1 (Nat.le_trans hb7.size hb8.size)
        have hS2 := spoil2_told w7 w41 (unhide HTP) (Nat.le_refl _) P1 (by omega)
        clear hS1
        go_wp2_with fail
        refine hS2.mono ?_
        rintro e w42 ⟨rfl, s2⟩
        have D2 := D1.sw s2 (Nat.le_refl _)
        have Z2 := Z1.sw s2 hb8.size
        have hS3 := spoil2_told w8 w42 (unhide HTD) (Nat.le_refl _) D2 (by omega)
        clear hS2 P1 D1 Z1
        go_wp2_with fail
        refine hS3.mono ?_
        rintro e w43 ⟨rfl, s3⟩
        have Z3 := Z2.sw s3 (Nat.le_refl _)
        have hS4 := spoil2_told w9 w43 (unhide HTZ) (Nat.le_refl _) Z3 (by omega)
        clear hS3 D2 Z2
        go_wp2_with fail
        refine hS4.mono ?_
        rintro e w44 ⟨rfl, s4⟩
        have k1 : Below w5.heap.size w5 w41 := (bt h59 h9r).trans s1.b
        have k2 := k1.trans (s2.b.mono h56.size)
        have k3 := k2.trans (s3.b.mono h57.size)
        have k4 := k3.trans (s4.b.mono h58.size)
        have hfin := bt hw5 k4
        have TA := (unhide HTA5).on k4
        have TB := (unhide HTB5).on k4
        have hK := keepFacts_t ta al tn tc ll cl ts xs w44 TA.row (hx.on hfin) TA.len (unhide HLX) (by omega) TA.len1k TA.eq
        have hK2 := fun W hb => keepFacts_t tb none un uc 0 0 us ys W (TB.on hb).row (hy.on (bt hfin hb)) TB.len (unhide HLY) (by omega) TB.len1k TB.eq
        clear hS4 Z3 k1 k2 k3 k4 s1 s2 s3 s4 TA TB j0 j1 h9r
        go_wp2_with fail
        refine hK.mono ?_
        rintro e w45 ⟨rfl, hb45⟩
        have hK2' := hK2 w45 hb45
        clear hK hK2
        go_wp2_with fail
        refine hK2'.mono ?_
        rintro e w46 ⟨rfl, hb46⟩
        clear hK2'
        go_wp2_with fail
        refine (wakes_any w46).mono ?_
        rintro e w47 ⟨rfl, hb47⟩
        have hend := bt (bt (bt hfin hb45) hb46) hb47
        go_wp2_with fail
        go_ret
        exact ⟨rfl, hend⟩
      | some ad =>
        have hcs : Hid (∀ (j : Nat) (u : Value), (flatF ys)[j]? = some u → w40.cell? (ad.add j) = some u) := by
          refine hide ?_
          rcases hyr.2 with h | ⟨b, o, h, hlt, hc⟩
          · rw [h]; intro j u hu; simp [flatF] at hu
          · simp only [Option.some.injEq] at h
            subst h
            intro j u hu
            rw [WideShapes.add_plain]
            exact flatF_cells ys hc j u hu
        have LY : Hid ((flatF ys).length = lm * 2) := hide (by rw [flatF_len, ← unhide HLY])
        go_wp2_with (at_builtin; refine append_guard (by rfl) _ _ 22 rfl w25.heap.size 25 i0 (.agg #[.string ⟨#[]⟩, .slice none 0 0]) 2 40 Try.underlying22 hi hz0 hz1 hz2 rfl (by decide) _ vn (flatF vs) rfl (unhide HTV).made.own ad lm cm (flatF ys) rfl (unhide LY) (unhide hcs) (flatF_oneCell ys) (unhide M1) (unhide B1) (unhide HBC).size ?_)
        intro v' w50 hown5 hgrow5
        obtain ⟨qa, qc, rfl⟩ := own_slice hown5
        obtain ⟨r1, r2, r3, r4⟩ := unhide HRO w50 qa (vn + lm) qc hown5 rfl hgrow5
        have hRf := refOf_any qa (vn + lm) qc (vs ++ ys) w50 r1 (Nat.le_of_eq r2) (Nat.le_of_eq r2.symm) (Nat.le_trans (Nat.add_le_add hv60 hm60) (by decide)) r3
        rw [unhide HEQ] at hRf
        have h4 := r4
        clear r1 r2 r3 r4 HRO HEQ hown5 hgrow5 hcs LY M1 B1
        clear HBC hyr HTV hbc h9r' hwr' hi hz0 hz1 hz2
        have h9r1 := bt h9r h4
        have hwr1 := bt hwr h4
        have j01 := cell_on h4 j0
        have j11 := cell_on h4 j1
        clear h9r hwr j0 j1 h4
        have h9r := h9r1
        have hwr := hwr1
        have j0 := j01
        have j1 := j11
        clear h9r1 hwr1 j01 j11
        go_wp2_with fail
        refine hRf.mono ?_
        rintro e w51 ⟨va2, vn2, vc2, vs2, rfl, TV2, hbc⟩
        have h9r' := bt h9r hbc
        have hwr' := bt hwr hbc
        have j0' := cell_on hbc j0
        have j1' := cell_on hbc j1
        clear h9r hwr j0 j1 hbc hRf
        have h9r := h9r'
        have hwr := hwr'
        have j0 := j0'
        have j1 := j1'
        clear h9r' hwr' j0' j1'
        have hK := keepFacts_t ba va2 bn bc vn2 vc2 bs vs2 w51 ((unhide HTZ).on h9r).row TV2.row (unhide HTZ).len TV2.len (by omega) (unhide HTZ).len1k (by rw [unhide EZ, TV2.eq])
        clear TV2
        go_wp2_with fail
        refine (hK).mono ?_
        rintro e w27 ⟨rfl, hbc⟩
        have h9r' := bt h9r hbc
        have hwr' := bt hwr hbc
        have j0' := cell_on hbc j0
        have j1' := cell_on hbc j1
        clear h9r hwr j0 j1 hbc
        have h9r := h9r'
        have hwr := hwr'
        have j0 := j0'
        have j1 := j1'
        clear h9r' hwr' j0' j1'
        clear hK
        have hS1 := spoil2_told w6 w27 (unhide HTO) (Nat.le_refl _) ((unhide HTO).on (bt (bt (bt hb7 hb8) hb9) h9r)) (by omega)
        go_wp2_with fail
        refine hS1.mono ?_
        rintro e w41 ⟨rfl, s1⟩
        have P1 := ((unhide HTP).on (bt (bt hb8 hb9) h9r)).sw s1 (Nat.le_refl _)
        have D1 := ((unhide HTD).on (bt hb9 h9r)).sw s1 hb7.size
        have Z1 := ((unhide HTZ).on h9r).sw s1 (Nat.le_trans hb7.size hb8.size)
        have hS2 := spoil2_told w7 w41 (unhide HTP) (Nat.le_refl _) P1 (by omega)
        clear hS1
        go_wp2_with fail
        refine hS2.mono ?_
        rintro e w42 ⟨rfl, s2⟩
        have D2 := D1.sw s2 (Nat.le_refl _)
        have Z2 := Z1.sw s2 hb8.size
        have hS3 := spoil2_told w8 w42 (unhide HTD) (Nat.le_refl _) D2 (by omega)
        clear hS2 P1 D1 Z1
        go_wp2_with fail
        refine hS3.mono ?_
        rintro e w43 ⟨rfl, s3⟩
        have Z3 := Z2.sw s3 (Nat.le_refl _)
        have hS4 := spoil2_told w9 w43 (unhide HTZ) (Nat.le_refl _) Z3 (by omega)
        clear hS3 D2 Z2
        go_wp2_with fail
        refine hS4.mono ?_
        rintro e w44 ⟨rfl, s4⟩
        have k1 : Below w5.heap.size w5 w41 := (bt h59 h9r).trans s1.b
        have k2 := k1.trans (s2.b.mono h56.size)
        have k3 := k2.trans (s3.b.mono h57.size)
        have k4 := k3.trans (s4.b.mono h58.size)
        have hfin := bt hw5 k4
        have TA := (unhide HTA5).on k4
        have TB := (unhide HTB5).on k4
        have hK := keepFacts_t ta al tn tc ll cl ts xs w44 TA.row (hx.on hfin) TA.len (unhide HLX) (by omega) TA.len1k TA.eq
        have hK2 := fun W hb => keepFacts_t tb (some ad) un uc lm cm us ys W (TB.on hb).row (hy.on (bt hfin hb)) TB.len (unhide HLY) (by omega) TB.len1k TB.eq
        clear hS4 Z3 k1 k2 k3 k4 s1 s2 s3 s4 TA TB j0 j1 h9r
        go_wp2_with fail
        refine hK.mono ?_
        rintro e w45 ⟨rfl, hb45⟩
        have hK2' := hK2 w45 hb45
        clear hK hK2
        go_wp2_with fail
        refine hK2'.mono ?_
        rintro e w46 ⟨rfl, hb46⟩
        clear hK2'
        go_wp2_with fail
        refine (wakes_any w46).mono ?_
        rintro e w47 ⟨rfl, hb47⟩
        have hend := bt (bt (bt hfin hb45) hb46) hb47
        go_wp2_with fail
        go_ret
        exact ⟨rfl, hend⟩

set_option maxHeartbeats 16000000 in
set_option maxRecDepth 100000 in
theorem exact_tttf (al am : Option Addr) (ll cl lm cm : Nat) (xs ys : List Fb) (f : Fb) (w : World) (hx : RowF w al xs) (hy : RowF w am ys) (hlx : ll = xs.length) (hly : lm = ys.length) (nx : ∀ f ∈ xs, f.a = none → f.cap = 0) (ny : ∀ f ∈ ys, f.a = none → f.cap = 0) (nm : am = none → cm = 0) (hf : f.In w)
    (Hp : Hid ((xs.map Fb.l).all rightF = true)) (H1 : Hid (setB (xs.map Fb.l) = true)) (HF : Hid (rightF f.l = true)) (H2 : Hid (setB (ys.map Fb.l) = false)) :
    Calls Try.prog 3 #[.slice al ll cl, .slice am lm cm, .agg #[.string f.n, .slice f.a f.len f.cap]] w fun e w' => e = .returned (.bool true) ∧ Below w.heap.size w w' := by
  have hba : Below w.heap.size w (w.alloc (bxO f)) := (Below.refl _ _).alloc (Nat.le_refl _) _
  obtain ⟨j0, j1⟩ := pair_of (heap_alloc_new w (bxO f))
  have hm1 := many_any al ll cl xs _ (hx.on hba) (by omega) (by omega)
  have hm2 := fun W hb => many_any am lm cm ys W (hy.on hb) (by omega) (by omega)
  have hx1 : ll ≤ xs.length := by omega
  have hx2 : xs.length ≤ ll := by omega
  have hy1 : lm ≤ ys.length := by omega
  have hy2 : ys.length ≤ lm := by omega
  have HLX := hide hlx
  have HLY := hide hly
  have NX := hide nx
  have NY := hide ny
  have NM := hide nm
  clear hlx hly nx ny nm
  go_enter Try.func3, Try.ntmps3
  go_wp2_with fail
  refine hm1.mono ?_
  rintro e w1 ⟨rfl | ⟨rfl, hl60, hLx⟩, hb1⟩
  · have hw1 := bt hba hb1
    clear hm1 hm2 j0 j1
    go_wp2_with fail
    go_ret
    exact ⟨rfl, hw1⟩
  have hm2' := hm2 w1 (bt hba hb1)
  have i0 := cell_on hb1 j0
  have i1 := cell_on hb1 j1
  have hw1 := bt hba hb1
  clear hm1 hm2 hba hb1 j0 j1
  go_wp2_with fail
  refine hm2'.mono ?_
  rintro e w2 ⟨rfl | ⟨rfl, hm60, hLy⟩, hb2⟩
  · have hw2 := bt hw1 hb2
    clear hm2' i0 i1
    go_wp2_with fail
    go_ret
    exact ⟨rfl, hw2⟩
  have hh := heavy_fb f w2 (hf.on (bt hw1 hb2))
  have j0 := cell_on hb2 i0
  have j1 := cell_on hb2 i1
  have hw2 := bt hw1 hb2
  clear hm2' hw1 hb2 i0 i1
  go_wp2_with fail
  refine hh.mono ?_
  rintro e w3 ⟨rfl | ⟨rfl, lf⟩, hb3⟩
  · have hw3 := bt hw2 hb3
    clear hh j0 j1
    go_wp2_with fail
    go_ret
    exact ⟨rfl, hw3⟩
  have i0 := cell_on hb3 j0
  have i1 := cell_on hb3 j1
  have hw3 := bt hw2 hb3
  clear hh hw2 hb3 j0 j1
  have ht1 := twins_any al ll cl xs w3 (hx.on hw3) hx1 hx2 (by omega) hLx (unhide NX)
  go_wp2_with fail
  refine ht1.mono ?_
  rintro e w4 ⟨ta, tn, tc, ts, rfl, TA, hb4⟩
  have hw4 := bt hw3 hb4
  have j0 := cell_on hb4 i0
  have j1 := cell_on hb4 i1
  have ht2 := twins_any am lm cm ys w4 (hy.on hw4) hy1 hy2 (by omega) hLy (unhide NY)
  have HTA := hide TA
  clear ht1 TA hw3 i0 i1
  go_wp2_with fail
  refine ht2.mono ?_
  rintro e w5 ⟨tb, un, uc, us, rfl, TB, hb5⟩
  have hw5 := bt hw4 hb5
  have c0 := cell_on hb5 j0
  have c1 := cell_on hb5 j1
  have TA := (unhide HTA).on hb5
  have ht60 : tn ≤ 60 := by rw [TA.lenl, List.length_map]; omega
  have hu60 : un ≤ 60 := by rw [TB.lenl, List.length_map]; omega
  have HTA5 := hide TA
  have HTB5 := hide TB
  have hO := of_any true ta tn tc ts w5 TA.row TA.len (by omega) TA.light TA.nil (by rw [TA.eq]; exact unhide Hp)
  clear ht2 TA TB HTA hw4 hb4 hb5 j0 j1
  go_wp2_with fail
  refine hO.mono ?_
  rintro e w6 ⟨oa, on, oc, os, rfl, TO, hb6⟩
  rw [show chk true = 0 from rfl]
  have eO : os.map Fb.l = ofL cmpF (xs.map Fb.l) := by rw [TO.eq]; rw [(unhide HTA5).eq]; rfl
  have EO := hide eO
  have HTO := hide TO
  have lO : on ≤ 60 := by
    have h1 := TO.len
    have h2 := congrArg List.length eO
    have h3 := len_of_le (l := xs.map Fb.l)
    simp only [List.length_map] at h2 h3
    omega
  have i0 := cell_on hb6 c0
  have i1 := cell_on hb6 c1
  have h56 := hb6
  have TA := (unhide HTA5).on h56
  have hP := put_any true true ta tn tc ts f w6 TA.row (hf.on (bt hw5 h56)) TA.len (by omega) TA.cap TA.light lf (by rw [TA.eq]; exact unhide H1) (unhide HF)
  clear hO TO eO TA c0 c1
  go_wp2_with fail
  refine hP.mono ?_
  rintro e w7 ⟨pa, pn, pc, ps, rfl, TP, hb7⟩
  rw [show chk (true && true) = 0 from rfl]
  have eP : ps.map Fb.l = putL cmpF (xs.map Fb.l) f.l := by rw [TP.eq]; rw [(unhide HTA5).eq]; rfl
  have EP := hide eP
  have HTP := hide TP
  have lP : pn ≤ 61 := by
    have h1 := TP.len
    have h2 := congrArg List.length eP
    have h3 := len_put_le (l := xs.map Fb.l) (x := f.l)
    simp only [List.length_map] at h2 h3
    omega
  have c0 := cell_on hb7 i0
  have c1 := cell_on hb7 i1
  have h57 := bt h56 hb7
  have TA := (unhide HTA5).on h57
  have hD := drop_any true true ta tn tc ts f w7 TA.row (hf.on (bt hw5 h57)) TA.len (by omega) TA.cap TA.light lf (by rw [TA.eq]; exact unhide H1) (unhide HF)
  clear hP TP eP TA i0 i1
  go_wp2_with fail
  refine hD.mono ?_
  rintro e w8 ⟨da, dn, dc, ds, rfl, TD, hb8⟩
  rw [show chk (true && true) = 0 from rfl]
  have eD : ds.map Fb.l = dropL (xs.map Fb.l) f.l := by rw [TD.eq]; rw [(unhide HTA5).eq]; rfl
  have ED := hide eD
  have HTD := hide TD
  have lD : dn ≤ 61 := by
    have h1 := TD.len
    have h2 := congrArg List.length eD
    have h3 := len_drop_le (l := xs.map Fb.l) (x := f.l)
    simp only [List.length_map] at h2 h3
    omega
  have i0 := cell_on hb8 c0
  have i1 := cell_on hb8 c1
  have h58 := bt h57 hb8
  have TA := (unhide HTA5).on h58
  have TB := (unhide HTB5).on h58
  have hB := both_any true false ta tb tn tc un uc ts us w8 TA.row TB.row TA.len TB.len (by omega) (by omega) TA.light TB.light TA.nil TB.nil (by rw [TA.eq]; exact unhide H1) (by rw [TB.eq]; exact unhide H2)
  clear hD TD eD TA TB c0 c1
  go_wp2_with fail
  refine hB.mono ?_
  rintro e w9 ⟨ba, bn, bc, bs, rfl, TZ, hb9⟩
  rw [show chk (true && false) = 1 from rfl]
  have eZ : bs.map Fb.l = [] := by rw [TZ.eq]; rfl
  have EZ := hide eZ
  have HTZ := hide TZ
  have lZ : bn ≤ 120 := by
    have h1 := TZ.len
    have h2 := congrArg List.length eZ
    
    simp only [List.length_map, List.length_nil] at h2
    omega
  have bn0 : bn = 0 := by
    have h1 := TZ.len
    have h2 := congrArg List.length eZ
    simp only [List.length_map, List.length_nil] at h2
    omega
  subst bn0
  have c0 := cell_on hb9 i0
  have c1 := cell_on hb9 i1
  have h59 := bt h58 hb9
  have TA := (unhide HTA5).on h59
  have hw9 := bt hw5 h59
  obtain ⟨q, hq⟩ : ∃ q, decide (f.l ∈ xs.map Fb.l) = q := ⟨_, rfl⟩
  have F1 := cls (wr := w9) (fun W hb => has_any ta tn tc ts f q W (TA.on hb).row (hf.on (bt hw9 hb)) (by rw [TA.len]; omega) (by rw [← TA.len]; omega) (by omega) TA.len1k (hide (by rw [TA.eq]; exact hq)))
  have F2 := cls (wr := w9) (fun W hb => refHas_any al ll cl xs f q W (hx.on (bt hw9 hb)) (hf.on (bt hw9 hb)) hx1 hx2 (by omega) (fun g hg => by have := (hLx g hg).len; omega) (hide hq))
  have m0 := cell_regrown c0
  have m1 := cell_regrown c1
  have hqq : (q != q) = false := by simp
  clear hB TZ eZ TA i0 i1 hq
  go_wp2_with fail
  refine wp_region_quiet_below (by kernel_rfl) (by kernel_rfl) ?_
  repeat (go_big_quiet_step (first | with_reducible exact F1 _ _ | with_reducible exact F2 _ _))
  refine wpQuiet_nil ?_
  intro _ hw'
  obtain ⟨⟨dq, osq⟩, hw''⟩ := hw'
  subst hw''
  have hb10 := below_regrown w9 dq osq
  have i0 := cell_on hb10 c0
  have i1 := cell_on hb10 c1
  clear F1 F2 m0 m1 c0 c1
  generalize Sort.grow (redrawn w9 dq) osq = w10 at hb10 i0 i1 ⊢
  have h910 := hb10
  clear hb10
  go_wp2_with fail
  go_loopw [17, 18] (fun v i wr => ∃ (k : Nat) (bb : Bool), k ≤ ll ∧ i = .int .i64 k ∧ v = .bool bb ∧ Hid (((xs.take k).map Fb.l).all rightF = bb) ∧ Below w10.heap.size w10 wr) (fun _ i _ => ll - (intOf i).toNat)
  case atStart => exact ⟨0, true, Nat.zero_le _, rfl, rfl, hide rfl, Below.refl _ _⟩
  case round =>
    obtain ⟨k, bb, hk, rfl, rfl, HB, hbw⟩ := hrel
    by_cases hlt : k < ll
    · have hrow := hx.on (bt hw9 (bt h910 hbw))
      obtain ⟨b, o, ha, hbl, d0, d1, hin⟩ := hrow.up (show k < xs.length by omega)
      subst ha
      have lx := hLx xs[k] (List.getElem_mem (by omega))
      have HE : Hid (∀ z, rightF xs[k].l = z → ((xs.take (k + 1)).map Fb.l).all rightF = (bb && z)) := by
        refine hide (fun z hz => ?_)
        rw [take_l xs k (by omega), List.all_append, unhide HB]
        simp [hz]
      obtain ⟨z, hz⟩ : ∃ z, rightF xs[k].l = z := ⟨_, rfl⟩
      have HN := hide (unhide HE z hz)
      have HZ := hide hz
      clear HE hz hrow
      generalize xs[k] = x at d0 d1 hin lx HZ
      cases bb with
      | true =>
        rw [Bool.true_and] at HN
        have hr := refFact_q x z wr hin lx HZ
        go_wp2_with fail
        refine hr.mono ?_
        rintro e wq ⟨rfl, hbq⟩
        have hbw' := bt hbw hbq
        clear hr d0 d1 hin
        go_wp2_with fail
        go_roundw
        case rel => exact ⟨k + 1, z, by omega, by go_num, rfl, HN, hbw'⟩
        case measure => simp [intOf]; omega
      | false =>
        rw [Bool.false_and] at HN
        clear d0 d1 hin
        go_wp2_with fail
        go_roundw
        case rel => exact ⟨k + 1, false, by omega, by go_num, rfl, HN, hbw⟩
        case measure => simp [intOf]; omega
    · have hbb : bb = true := by
        have h := unhide HB
        rw [List.take_of_length_le (by omega)] at h
        rw [← h]; exact unhide Hp
      subst hbb
      have j0 := cell_on hbw i0
      have j1 := cell_on hbw i1
      have h9r := bt h910 hbw
      have hwr := bt hw9 h9r
      clear HB hbw h910 i0 i1
      go_wp2_with fail
      refine (refOf_any al ll cl xs wr (hx.on hwr) hx1 hx2 (by omega) hLx).mono ?_
      rintro e w19 ⟨va, vn, vc, vs, rfl, TV, hbc⟩
      have h9r' := bt h9r hbc
      have hwr' := bt hwr hbc
      have j0' := cell_on hbc j0
      have j1' := cell_on hbc j1
      clear h9r hwr j0 j1 hbc
      have h9r := h9r'
      have hwr := hwr'
      have j0 := j0'
      have j1 := j1'
      clear h9r' hwr' j0' j1'
      have hK := keepFacts_t oa va on oc vn vc os vs w19 ((unhide HTO).on (bt (bt (bt hb7 hb8) hb9) h9r)).row TV.row (unhide HTO).len TV.len (by omega) (unhide HTO).len1k (by rw [unhide EO, TV.eq])
      clear TV
      go_wp2_with fail
      refine (hK).mono ?_
      rintro e w21 ⟨rfl, hbc⟩
      have h9r' := bt h9r hbc
      have hwr' := bt hwr hbc
      have j0' := cell_on hbc j0
      have j1' := cell_on hbc j1
      clear h9r hwr j0 j1 hbc
      have h9r := h9r'
      have hwr := hwr'
      have j0 := j0'
      have j1 := j1'
      clear h9r' hwr' j0' j1'
      clear hK
      go_wp2_with fail
      refine (refSet_any al ll cl xs true w21 (hx.on hwr) hx1 hx2 (by omega) hLx H1).mono ?_
      rintro e w22 ⟨rfl, hbc⟩
      have h9r' := bt h9r hbc
      have hwr' := bt hwr hbc
      have j0' := cell_on hbc j0
      have j1' := cell_on hbc j1
      clear h9r hwr j0 j1 hbc
      have h9r := h9r'
      have hwr := hwr'
      have j0 := j0'
      have j1 := j1'
      clear h9r' hwr' j0' j1'
      go_wp2_with fail
      refine (refFact_q f true w22 (hf.on hwr) lf HF).mono ?_
      rintro e w23 ⟨rfl, hbc⟩
      have h9r' := bt h9r hbc
      have hwr' := bt hwr hbc
      have j0' := cell_on hbc j0
      have j1' := cell_on hbc j1
      clear h9r hwr j0 j1 hbc
      have h9r := h9r'
      have hwr := hwr'
      have j0 := j0'
      have j1 := j1'
      clear h9r' hwr' j0' j1'
      go_wp2_with fail
      refine (refSet_any am lm cm ys false w23 (hy.on hwr) hy1 hy2 (by omega) hLy H2).mono ?_
      rintro e w24 ⟨rfl, hbc⟩
      have h9r' := bt h9r hbc
      have hwr' := bt hwr hbc
      have j0' := cell_on hbc j0
      have j1' := cell_on hbc j1
      clear h9r hwr j0 j1 hbc
      have h9r := h9r'
      have hwr := hwr'
      have j0 := j0'
      have j1 := j1'
      clear h9r' hwr' j0' j1'
      go_wp2_with fail
      refine (scheck_x ta tn tc ts 0 w24 ((unhide HTA5).on (bt h59 h9r)).row (by rw [(unhide HTA5).len]; omega) (by rw [← (unhide HTA5).len]; omega) (by omega) (unhide HTA5).light (hide (by rw [(unhide HTA5).eq, unhide H1]; rfl))).mono ?_
      rintro e w25 ⟨rfl, hbc⟩
      have h9r' := bt h9r hbc
      have hwr' := bt hwr hbc
      have j0' := cell_on hbc j0
      have j1' := cell_on hbc j1
      clear h9r hwr j0 j1 hbc
      have h9r := h9r'
      have hwr := hwr'
      have j0 := j0'
      have j1 := j1'
      clear h9r' hwr' j0' j1'
      go_wp2_with fail
      refine (refPut_any al ll cl xs f w25 (hx.on hwr) (hf.on hwr) hx1 hx2 (by omega) hLx lf).mono ?_
      rintro e w26 ⟨va, vn, vc, vs, rfl, TV, hbc⟩
      have h9r' := bt h9r hbc
      have hwr' := bt hwr hbc
      have j0' := cell_on hbc j0
      have j1' := cell_on hbc j1
      clear h9r hwr j0 j1 hbc
      have h9r := h9r'
      have hwr := hwr'
      have j0 := j0'
      have j1 := j1'
      clear h9r' hwr' j0' j1'
      have hK := keepFacts_t pa va pn pc vn vc ps vs w26 ((unhide HTP).on (bt (bt hb8 hb9) h9r)).row TV.row (unhide HTP).len TV.len (by omega) (unhide HTP).len1k (by rw [unhide EP, TV.eq])
      clear TV
      go_wp2_with fail
      refine (hK).mono ?_
      rintro e w27 ⟨rfl, hbc⟩
      have h9r' := bt h9r hbc
      have hwr' := bt hwr hbc
      have j0' := cell_on hbc j0
      have j1' := cell_on hbc j1
      clear h9r hwr j0 j1 hbc
      have h9r := h9r'
      have hwr := hwr'
      have j0 := j0'
      have j1 := j1'
      clear h9r' hwr' j0' j1'
      clear hK
      go_wp2_with fail
      refine (refDrop_any al ll cl xs f w27 (hx.on hwr) (hf.on hwr) hx1 hx2 (by omega) hLx).mono ?_
      rintro e w28 ⟨va, vn, vc, vs, rfl, TV, hbc⟩
      have h9r' := bt h9r hbc
      have hwr' := bt hwr hbc
      have j0' := cell_on hbc j0
      have j1' := cell_on hbc j1
      clear h9r hwr j0 j1 hbc
      have h9r := h9r'
      have hwr := hwr'
      have j0 := j0'
      have j1 := j1'
      clear h9r' hwr' j0' j1'
      have hK := keepFacts_t da va dn dc vn vc ds vs w28 ((unhide HTD).on (bt hb9 h9r)).row TV.row (unhide HTD).len TV.len (by omega) (unhide HTD).len1k (by rw [unhide ED, TV.eq])
      clear TV
      go_wp2_with fail
      refine (hK).mono ?_
      rintro e w29 ⟨rfl, hbc⟩
      have h9r' := bt h9r hbc
      have hwr' := bt hwr hbc
      have j0' := cell_on hbc j0
      have j1' := cell_on hbc j1
      clear h9r hwr j0 j1 hbc
      have h9r := h9r'
      have hwr := hwr'
      have j0 := j0'
      have j1 := j1'
      clear h9r' hwr' j0' j1'
      clear hK
      have hS1 := spoil2_told w6 w29 (unhide HTO) (Nat.le_refl _) ((unhide HTO).on (bt (bt (bt hb7 hb8) hb9) h9r)) (by omega)
      go_wp2_with fail
      refine hS1.mono ?_
      rintro e w41 ⟨rfl, s1⟩
      have P1 := ((unhide HTP).on (bt (bt hb8 hb9) h9r)).sw s1 (Nat.le_refl _)
      have D1 := ((unhide HTD).on (bt hb9 h9r)).sw s1 hb7.size
      have Z1 := ((unhide HTZ).on h9r).sw s1 (Nat.le_trans hb7.size hb8.size)
      have hS2 := spoil2_told w7 w41 (unhide HTP) (Nat.le_refl _) P1 (by omega)
      clear hS1
      go_wp2_with fail
      refine hS2.mono ?_
      rintro e w42 ⟨rfl, s2⟩
      have D2 := D1.sw s2 (Nat.le_refl _)
      have Z2 := Z1.sw s2 hb8.size
      have hS3 := spoil2_told w8 w42 (unhide HTD) (Nat.le_refl _) D2 (by omega)
      clear hS2 P1 D1 Z1
      go_wp2_with fail
      refine hS3.mono ?_
      rintro e w43 ⟨rfl, s3⟩
      have Z3 := Z2.sw s3 (Nat.le_refl _)
      have hS4 := spoil2_told w9 w43 (unhide HTZ) (Nat.le_refl _) Z3 (by omega)
      clear hS3 D2 Z2
      go_wp2_with fail
      refine hS4.mono ?_
      rintro e w44 ⟨rfl, s4⟩
      have k1 : Below w5.heap.size w5 w41 := (bt h59 h9r).trans s1.b
      have k2 := k1.trans (s2.b.mono h56.size)
      have k3 := k2.trans (s3.b.mono h57.size)
      have k4 := k3.trans (s4.b.mono h58.size)
      have hfin := bt hw5 k4
      have TA := (unhide HTA5).on k4
      have TB := (unhide HTB5).on k4
      have hK := keepFacts_t ta al tn tc ll cl ts xs w44 TA.row (hx.on hfin) TA.len (unhide HLX) (by omega) TA.len1k TA.eq
      have hK2 := fun W hb => keepFacts_t tb am un uc lm cm us ys W (TB.on hb).row (hy.on (bt hfin hb)) TB.len (unhide HLY) (by omega) TB.len1k TB.eq
      clear hS4 Z3 k1 k2 k3 k4 s1 s2 s3 s4 TA TB j0 j1 h9r
      go_wp2_with fail
      refine hK.mono ?_
      rintro e w45 ⟨rfl, hb45⟩
      have hK2' := hK2 w45 hb45
      clear hK hK2
      go_wp2_with fail
      refine hK2'.mono ?_
      rintro e w46 ⟨rfl, hb46⟩
      clear hK2'
      go_wp2_with fail
      refine (wakes_any w46).mono ?_
      rintro e w47 ⟨rfl, hb47⟩
      have hend := bt (bt (bt hfin hb45) hb46) hb47
      go_wp2_with fail
      go_ret
      exact ⟨rfl, hend⟩

set_option maxHeartbeats 16000000 in
set_option maxRecDepth 100000 in
theorem exact_tttt (al am : Option Addr) (ll cl lm cm : Nat) (xs ys : List Fb) (f : Fb) (w : World) (hx : RowF w al xs) (hy : RowF w am ys) (hlx : ll = xs.length) (hly : lm = ys.length) (nx : ∀ f ∈ xs, f.a = none → f.cap = 0) (ny : ∀ f ∈ ys, f.a = none → f.cap = 0) (nm : am = none → cm = 0) (hf : f.In w)
    (Hp : Hid ((xs.map Fb.l).all rightF = true)) (H1 : Hid (setB (xs.map Fb.l) = true)) (HF : Hid (rightF f.l = true)) (H2 : Hid (setB (ys.map Fb.l) = true)) :
    Calls Try.prog 3 #[.slice al ll cl, .slice am lm cm, .agg #[.string f.n, .slice f.a f.len f.cap]] w fun e w' => e = .returned (.bool true) ∧ Below w.heap.size w w' := by
  have hba : Below w.heap.size w (w.alloc (bxO f)) := (Below.refl _ _).alloc (Nat.le_refl _) _
  obtain ⟨j0, j1⟩ := pair_of (heap_alloc_new w (bxO f))
  have hm1 := many_any al ll cl xs _ (hx.on hba) (by omega) (by omega)
  have hm2 := fun W hb => many_any am lm cm ys W (hy.on hb) (by omega) (by omega)
  have hx1 : ll ≤ xs.length := by omega
  have hx2 : xs.length ≤ ll := by omega
  have hy1 : lm ≤ ys.length := by omega
  have hy2 : ys.length ≤ lm := by omega
  have HLX := hide hlx
  have HLY := hide hly
  have NX := hide nx
  have NY := hide ny
  have NM := hide nm
  clear hlx hly nx ny nm
  go_enter Try.func3, Try.ntmps3
  go_wp2_with fail
  refine hm1.mono ?_
  rintro e w1 ⟨rfl | ⟨rfl, hl60, hLx⟩, hb1⟩
  · have hw1 := bt hba hb1
    clear hm1 hm2 j0 j1
    go_wp2_with fail
    go_ret
    exact ⟨rfl, hw1⟩
  have hm2' := hm2 w1 (bt hba hb1)
  have i0 := cell_on hb1 j0
  have i1 := cell_on hb1 j1
  have hw1 := bt hba hb1
  clear hm1 hm2 hba hb1 j0 j1
  go_wp2_with fail
  refine hm2'.mono ?_
  rintro e w2 ⟨rfl | ⟨rfl, hm60, hLy⟩, hb2⟩
  · have hw2 := bt hw1 hb2
    clear hm2' i0 i1
    go_wp2_with fail
    go_ret
    exact ⟨rfl, hw2⟩
  have hh := heavy_fb f w2 (hf.on (bt hw1 hb2))
  have j0 := cell_on hb2 i0
  have j1 := cell_on hb2 i1
  have hw2 := bt hw1 hb2
  clear hm2' hw1 hb2 i0 i1
  go_wp2_with fail
  refine hh.mono ?_
  rintro e w3 ⟨rfl | ⟨rfl, lf⟩, hb3⟩
  · have hw3 := bt hw2 hb3
    clear hh j0 j1
    go_wp2_with fail
    go_ret
    exact ⟨rfl, hw3⟩
  have i0 := cell_on hb3 j0
  have i1 := cell_on hb3 j1
  have hw3 := bt hw2 hb3
  clear hh hw2 hb3 j0 j1
  have ht1 := twins_any al ll cl xs w3 (hx.on hw3) hx1 hx2 (by omega) hLx (unhide NX)
  go_wp2_with fail
  refine ht1.mono ?_
  rintro e w4 ⟨ta, tn, tc, ts, rfl, TA, hb4⟩
  have hw4 := bt hw3 hb4
  have j0 := cell_on hb4 i0
  have j1 := cell_on hb4 i1
  have ht2 := twins_any am lm cm ys w4 (hy.on hw4) hy1 hy2 (by omega) hLy (unhide NY)
  have HTA := hide TA
  clear ht1 TA hw3 i0 i1
  go_wp2_with fail
  refine ht2.mono ?_
  rintro e w5 ⟨tb, un, uc, us, rfl, TB, hb5⟩
  have hw5 := bt hw4 hb5
  have c0 := cell_on hb5 j0
  have c1 := cell_on hb5 j1
  have TA := (unhide HTA).on hb5
  have ht60 : tn ≤ 60 := by rw [TA.lenl, List.length_map]; omega
  have hu60 : un ≤ 60 := by rw [TB.lenl, List.length_map]; omega
  have HTA5 := hide TA
  have HTB5 := hide TB
  have hO := of_any true ta tn tc ts w5 TA.row TA.len (by omega) TA.light TA.nil (by rw [TA.eq]; exact unhide Hp)
  clear ht2 TA TB HTA hw4 hb4 hb5 j0 j1
  go_wp2_with fail
  refine hO.mono ?_
  rintro e w6 ⟨oa, on, oc, os, rfl, TO, hb6⟩
  rw [show chk true = 0 from rfl]
  have eO : os.map Fb.l = ofL cmpF (xs.map Fb.l) := by rw [TO.eq]; rw [(unhide HTA5).eq]; rfl
  have EO := hide eO
  have HTO := hide TO
  have lO : on ≤ 60 := by
    have h1 := TO.len
    have h2 := congrArg List.length eO
    have h3 := len_of_le (l := xs.map Fb.l)
    simp only [List.length_map] at h2 h3
    omega
  have i0 := cell_on hb6 c0
  have i1 := cell_on hb6 c1
  have h56 := hb6
  have TA := (unhide HTA5).on h56
  have hP := put_any true true ta tn tc ts f w6 TA.row (hf.on (bt hw5 h56)) TA.len (by omega) TA.cap TA.light lf (by rw [TA.eq]; exact unhide H1) (unhide HF)
  clear hO TO eO TA c0 c1
  go_wp2_with fail
  refine hP.mono ?_
  rintro e w7 ⟨pa, pn, pc, ps, rfl, TP, hb7⟩
  rw [show chk (true && true) = 0 from rfl]
  have eP : ps.map Fb.l = putL cmpF (xs.map Fb.l) f.l := by rw [TP.eq]; rw [(unhide HTA5).eq]; rfl
  have EP := hide eP
  have HTP := hide TP
  have lP : pn ≤ 61 := by
    have h1 := TP.len
    have h2 := congrArg List.length eP
    have h3 := len_put_le (l := xs.map Fb.l) (x := f.l)
    simp only [List.length_map] at h2 h3
    omega
  have c0 := cell_on hb7 i0
  have c1 := cell_on hb7 i1
  have h57 := bt h56 hb7
  have TA := (unhide HTA5).on h57
  have hD := drop_any true true ta tn tc ts f w7 TA.row (hf.on (bt hw5 h57)) TA.len (by omega) TA.cap TA.light lf (by rw [TA.eq]; exact unhide H1) (unhide HF)
  clear hP TP eP TA i0 i1
  go_wp2_with fail
  refine hD.mono ?_
  rintro e w8 ⟨da, dn, dc, ds, rfl, TD, hb8⟩
  rw [show chk (true && true) = 0 from rfl]
  have eD : ds.map Fb.l = dropL (xs.map Fb.l) f.l := by rw [TD.eq]; rw [(unhide HTA5).eq]; rfl
  have ED := hide eD
  have HTD := hide TD
  have lD : dn ≤ 61 := by
    have h1 := TD.len
    have h2 := congrArg List.length eD
    have h3 := len_drop_le (l := xs.map Fb.l) (x := f.l)
    simp only [List.length_map] at h2 h3
    omega
  have i0 := cell_on hb8 c0
  have i1 := cell_on hb8 c1
  have h58 := bt h57 hb8
  have TA := (unhide HTA5).on h58
  have TB := (unhide HTB5).on h58
  have hB := both_any true true ta tb tn tc un uc ts us w8 TA.row TB.row TA.len TB.len (by omega) (by omega) TA.light TB.light TA.nil TB.nil (by rw [TA.eq]; exact unhide H1) (by rw [TB.eq]; exact unhide H2)
  clear hD TD eD TA TB c0 c1
  go_wp2_with fail
  refine hB.mono ?_
  rintro e w9 ⟨ba, bn, bc, bs, rfl, TZ, hb9⟩
  rw [show chk (true && true) = 0 from rfl]
  have eZ : bs.map Fb.l = ofL cmpF (xs.map Fb.l ++ ys.map Fb.l) := by rw [TZ.eq]; rw [(unhide HTA5).eq, (unhide HTB5).eq]; rfl
  have EZ := hide eZ
  have HTZ := hide TZ
  have lZ : bn ≤ 120 := by
    have h1 := TZ.len
    have h2 := congrArg List.length eZ
    have h3 := len_of_le (l := xs.map Fb.l ++ ys.map Fb.l)
    simp only [List.length_map, List.length_append] at h2 h3
    omega
  have c0 := cell_on hb9 i0
  have c1 := cell_on hb9 i1
  have h59 := bt h58 hb9
  have TA := (unhide HTA5).on h59
  have hw9 := bt hw5 h59
  obtain ⟨q, hq⟩ : ∃ q, decide (f.l ∈ xs.map Fb.l) = q := ⟨_, rfl⟩
  have F1 := cls (wr := w9) (fun W hb => has_any ta tn tc ts f q W (TA.on hb).row (hf.on (bt hw9 hb)) (by rw [TA.len]; omega) (by rw [← TA.len]; omega) (by omega) TA.len1k (hide (by rw [TA.eq]; exact hq)))
  have F2 := cls (wr := w9) (fun W hb => refHas_any al ll cl xs f q W (hx.on (bt hw9 hb)) (hf.on (bt hw9 hb)) hx1 hx2 (by omega) (fun g hg => by have := (hLx g hg).len; omega) (hide hq))
  have m0 := cell_regrown c0
  have m1 := cell_regrown c1
  have hqq : (q != q) = false := by simp
  clear hB TZ eZ TA i0 i1 hq
  go_wp2_with fail
  refine wp_region_quiet_below (by kernel_rfl) (by kernel_rfl) ?_
  repeat (go_big_quiet_step (first | with_reducible exact F1 _ _ | with_reducible exact F2 _ _))
  refine wpQuiet_nil ?_
  intro _ hw'
  obtain ⟨⟨dq, osq⟩, hw''⟩ := hw'
  subst hw''
  have hb10 := below_regrown w9 dq osq
  have i0 := cell_on hb10 c0
  have i1 := cell_on hb10 c1
  clear F1 F2 m0 m1 c0 c1
  generalize Sort.grow (redrawn w9 dq) osq = w10 at hb10 i0 i1 ⊢
  have h910 := hb10
  clear hb10
  go_wp2_with fail
  go_loopw [17, 18] (fun v i wr => ∃ (k : Nat) (bb : Bool), k ≤ ll ∧ i = .int .i64 k ∧ v = .bool bb ∧ Hid (((xs.take k).map Fb.l).all rightF = bb) ∧ Below w10.heap.size w10 wr) (fun _ i _ => ll - (intOf i).toNat)
  case atStart => exact ⟨0, true, Nat.zero_le _, rfl, rfl, hide rfl, Below.refl _ _⟩
  case round =>
    obtain ⟨k, bb, hk, rfl, rfl, HB, hbw⟩ := hrel
    by_cases hlt : k < ll
    · have hrow := hx.on (bt hw9 (bt h910 hbw))
      obtain ⟨b, o, ha, hbl, d0, d1, hin⟩ := hrow.up (show k < xs.length by omega)
      subst ha
      have lx := hLx xs[k] (List.getElem_mem (by omega))
      have HE : Hid (∀ z, rightF xs[k].l = z → ((xs.take (k + 1)).map Fb.l).all rightF = (bb && z)) := by
        refine hide (fun z hz => ?_)
        rw [take_l xs k (by omega), List.all_append, unhide HB]
        simp [hz]
      obtain ⟨z, hz⟩ : ∃ z, rightF xs[k].l = z := ⟨_, rfl⟩
      have HN := hide (unhide HE z hz)
      have HZ := hide hz
      clear HE hz hrow
      generalize xs[k] = x at d0 d1 hin lx HZ
      cases bb with
      | true =>
        rw [Bool.true_and] at HN
        have hr := refFact_q x z wr hin lx HZ
        go_wp2_with fail
        refine hr.mono ?_
        rintro e wq ⟨rfl, hbq⟩
        have hbw' := bt hbw hbq
        clear hr d0 d1 hin
        go_wp2_with fail
        go_roundw
        case rel => exact ⟨k + 1, z, by omega, by go_num, rfl, HN, hbw'⟩
        case measure => simp [intOf]; omega
      | false =>
        rw [Bool.false_and] at HN
        clear d0 d1 hin
        go_wp2_with fail
        go_roundw
        case rel => exact ⟨k + 1, false, by omega, by go_num, rfl, HN, hbw⟩
        case measure => simp [intOf]; omega
    · have hbb : bb = true := by
        have h := unhide HB
        rw [List.take_of_length_le (by omega)] at h
        rw [← h]; exact unhide Hp
      subst hbb
      have j0 := cell_on hbw i0
      have j1 := cell_on hbw i1
      have h9r := bt h910 hbw
      have hwr := bt hw9 h9r
      clear HB hbw h910 i0 i1
      go_wp2_with fail
      refine (refOf_any al ll cl xs wr (hx.on hwr) hx1 hx2 (by omega) hLx).mono ?_
      rintro e w19 ⟨va, vn, vc, vs, rfl, TV, hbc⟩
      have h9r' := bt h9r hbc
      have hwr' := bt hwr hbc
      have j0' := cell_on hbc j0
      have j1' := cell_on hbc j1
      clear h9r hwr j0 j1 hbc
      have h9r := h9r'
      have hwr := hwr'
      have j0 := j0'
      have j1 := j1'
      clear h9r' hwr' j0' j1'
      have hK := keepFacts_t oa va on oc vn vc os vs w19 ((unhide HTO).on (bt (bt (bt hb7 hb8) hb9) h9r)).row TV.row (unhide HTO).len TV.len (by omega) (unhide HTO).len1k (by rw [unhide EO, TV.eq])
      clear TV
      go_wp2_with fail
      refine (hK).mono ?_
      rintro e w21 ⟨rfl, hbc⟩
      have h9r' := bt h9r hbc
      have hwr' := bt hwr hbc
      have j0' := cell_on hbc j0
      have j1' := cell_on hbc j1
      clear h9r hwr j0 j1 hbc
      have h9r := h9r'
      have hwr := hwr'
      have j0 := j0'
      have j1 := j1'
      clear h9r' hwr' j0' j1'
      clear hK
      go_wp2_with fail
      refine (refSet_any al ll cl xs true w21 (hx.on hwr) hx1 hx2 (by omega) hLx H1).mono ?_
      rintro e w22 ⟨rfl, hbc⟩
      have h9r' := bt h9r hbc
      have hwr' := bt hwr hbc
      have j0' := cell_on hbc j0
      have j1' := cell_on hbc j1
      clear h9r hwr j0 j1 hbc
      have h9r := h9r'
      have hwr := hwr'
      have j0 := j0'
      have j1 := j1'
      clear h9r' hwr' j0' j1'
      go_wp2_with fail
      refine (refFact_q f true w22 (hf.on hwr) lf HF).mono ?_
      rintro e w23 ⟨rfl, hbc⟩
      have h9r' := bt h9r hbc
      have hwr' := bt hwr hbc
      have j0' := cell_on hbc j0
      have j1' := cell_on hbc j1
      clear h9r hwr j0 j1 hbc
      have h9r := h9r'
      have hwr := hwr'
      have j0 := j0'
      have j1 := j1'
      clear h9r' hwr' j0' j1'
      go_wp2_with fail
      refine (refSet_any am lm cm ys true w23 (hy.on hwr) hy1 hy2 (by omega) hLy H2).mono ?_
      rintro e w24 ⟨rfl, hbc⟩
      have h9r' := bt h9r hbc
      have hwr' := bt hwr hbc
      have j0' := cell_on hbc j0
      have j1' := cell_on hbc j1
      clear h9r hwr j0 j1 hbc
      have h9r := h9r'
      have hwr := hwr'
      have j0 := j0'
      have j1 := j1'
      clear h9r' hwr' j0' j1'
      go_wp2_with fail
      refine (scheck_x ta tn tc ts 0 w24 ((unhide HTA5).on (bt h59 h9r)).row (by rw [(unhide HTA5).len]; omega) (by rw [← (unhide HTA5).len]; omega) (by omega) (unhide HTA5).light (hide (by rw [(unhide HTA5).eq, unhide H1]; rfl))).mono ?_
      rintro e w25 ⟨rfl, hbc⟩
      have h9r' := bt h9r hbc
      have hwr' := bt hwr hbc
      have j0' := cell_on hbc j0
      have j1' := cell_on hbc j1
      clear h9r hwr j0 j1 hbc
      have h9r := h9r'
      have hwr := hwr'
      have j0 := j0'
      have j1 := j1'
      clear h9r' hwr' j0' j1'
      go_wp2_with fail
      refine (refPut_any al ll cl xs f w25 (hx.on hwr) (hf.on hwr) hx1 hx2 (by omega) hLx lf).mono ?_
      rintro e w26 ⟨va, vn, vc, vs, rfl, TV, hbc⟩
      have h9r' := bt h9r hbc
      have hwr' := bt hwr hbc
      have j0' := cell_on hbc j0
      have j1' := cell_on hbc j1
      clear h9r hwr j0 j1 hbc
      have h9r := h9r'
      have hwr := hwr'
      have j0 := j0'
      have j1 := j1'
      clear h9r' hwr' j0' j1'
      have hK := keepFacts_t pa va pn pc vn vc ps vs w26 ((unhide HTP).on (bt (bt hb8 hb9) h9r)).row TV.row (unhide HTP).len TV.len (by omega) (unhide HTP).len1k (by rw [unhide EP, TV.eq])
      clear TV
      go_wp2_with fail
      refine (hK).mono ?_
      rintro e w27 ⟨rfl, hbc⟩
      have h9r' := bt h9r hbc
      have hwr' := bt hwr hbc
      have j0' := cell_on hbc j0
      have j1' := cell_on hbc j1
      clear h9r hwr j0 j1 hbc
      have h9r := h9r'
      have hwr := hwr'
      have j0 := j0'
      have j1 := j1'
      clear h9r' hwr' j0' j1'
      clear hK
      go_wp2_with fail
      refine (refDrop_any al ll cl xs f w27 (hx.on hwr) (hf.on hwr) hx1 hx2 (by omega) hLx).mono ?_
      rintro e w28 ⟨va, vn, vc, vs, rfl, TV, hbc⟩
      have h9r' := bt h9r hbc
      have hwr' := bt hwr hbc
      have j0' := cell_on hbc j0
      have j1' := cell_on hbc j1
      clear h9r hwr j0 j1 hbc
      have h9r := h9r'
      have hwr := hwr'
      have j0 := j0'
      have j1 := j1'
      clear h9r' hwr' j0' j1'
      have hK := keepFacts_t da va dn dc vn vc ds vs w28 ((unhide HTD).on (bt hb9 h9r)).row TV.row (unhide HTD).len TV.len (by omega) (unhide HTD).len1k (by rw [unhide ED, TV.eq])
      clear TV
      go_wp2_with fail
      refine (hK).mono ?_
      rintro e w29 ⟨rfl, hbc⟩
      have h9r' := bt h9r hbc
      have hwr' := bt hwr hbc
      have j0' := cell_on hbc j0
      have j1' := cell_on hbc j1
      clear h9r hwr j0 j1 hbc
      have h9r := h9r'
      have hwr := hwr'
      have j0 := j0'
      have j1 := j1'
      clear h9r' hwr' j0' j1'
      clear hK
      have ht3 := twins_any al ll cl xs w29 (hx.on hwr) hx1 hx2 (by omega) hLx (unhide NX)
      go_wp2_with fail
      refine ht3.mono ?_
      rintro e w40 ⟨va, vn, vc, vs, rfl, TV, hbc⟩
      have h9r' := bt h9r hbc
      have hwr' := bt hwr hbc
      clear ht3
      have hv60 : vn ≤ 60 := by rw [TV.lenl, List.length_map]; omega
      have HTV := hide TV
      clear TV
      obtain ⟨M1, B1⟩ := both_facts hv60 hm60
      obtain ⟨i0, hi, hz0, hz1, hz2⟩ := info_parts infoF
      have HBC := hide hbc
      have hyr := hy.on hwr'
      have HRO : Hid (∀ (W : World) (q : Option Addr) (m c : Nat), W.ownsRow w29.heap.size 25 2 (.slice q m c) m (flatF vs ++ flatF ys) → m = vn + lm → w40.grownBy W (Value.slice va vn vc).ownBlock → RowF W q (vs ++ ys) ∧ m = (vs ++ ys).length ∧ (∀ g ∈ vs ++ ys, g.Light) ∧ Below w29.heap.size w29 W) := by
        refine hide (fun W q m c ho hm hg => ?_)
        have hbb : Below w29.heap.size w29 W := (unhide HBC).grown hg (unhide HBC).size (fun k hk => ((unhide HTV).made.own.lt k hk).1)
        rw [← flatF_app] at ho
        have hml : m = (vs ++ ys).length := by rw [hm, List.length_append, ← (unhide HTV).len, ← unhide HLY]
        refine ⟨rowF_own ho hml (fun g hgm => ?_), hml, fun g hgm => ?_, hbb⟩
        · rcases List.mem_append.1 hgm with h | h
          · have hn := (unhide HTV).made.new g h
            exact Fb.New.In (B := w29.heap.size) ⟨hn.own.kept hg (own_ne (unhide HTV).made.own hn.own (by decide)), hn.len⟩
          · exact (hy.1 g h).on (bt hwr hbb)
        · rcases List.mem_append.1 hgm with h | h
          · exact (unhide HTV).light g h
          · exact hLy g h
      have HEQ : Hid (ofL cmpF ((vs ++ ys).map Fb.l) = ofL cmpF (xs.map Fb.l ++ ys.map Fb.l)) := hide (by rw [List.map_append, (unhide HTV).eq])
      cases am with
      | none =>
        have hlm0 : lm = 0 := by
          rcases hy.2 with h | ⟨b, o, h, _⟩
          · have := unhide HLY; rw [h] at this; simpa using this
          · cases h
        have hcm0 := unhide NM rfl
        subst hlm0 hcm0
        go_wp2_with (at_builtin; refine append_guard_none (by rfl) _ _ 22 rfl w29.heap.size 25 i0 2 Try.underlying22 hi _ vn (flatF vs) rfl (unhide HTV).made.own rfl ?_)
        have hys : ys = [] := List.eq_nil_of_length_eq_zero (Nat.le_zero.1 hy2)
        obtain ⟨r1, r2, r3, r4⟩ := unhide HRO w40 va vn vc (by rw [hys, show flatF ([] : List Fb) = [] from rfl, List.append_nil]; exact (unhide HTV).made.own) rfl ⟨rfl, rfl, rfl, Nat.le_refl _, fun _ _ _ => rfl⟩
        have hRf := refOf_any va vn vc (vs ++ ys) w40 r1 (Nat.le_of_eq r2) (Nat.le_of_eq r2.symm) (Nat.le_trans hv60 (by decide)) r3
        rw [unhide HEQ] at hRf
        have h4 := r4
        clear r1 r2 r3 r4 HRO HEQ hys M1 B1
        clear HBC hyr HTV hbc h9r' hwr' hi hz0 hz1 hz2
        have h9r1 := bt h9r h4
        have hwr1 := bt hwr h4
        have j01 := cell_on h4 j0
        have j11 := cell_on h4 j1
        clear h9r hwr j0 j1 h4
        have h9r := h9r1
        have hwr := hwr1
        have j0 := j01
        have j1 := j11
        clear h9r1 hwr1 j01 j11
        go_wp2_with fail
        refine hRf.mono ?_
        rintro e w51 ⟨va2, vn2, vc2, vs2, rfl, TV2, hbc⟩
        have h9r' := bt h9r hbc
        have hwr' := bt hwr hbc
        have j0' := cell_on hbc j0
        have j1' := cell_on hbc j1
        clear h9r hwr j0 j1 hbc hRf
        have h9r := h9r'
        have hwr := hwr'
        have j0 := j0'
        have j1 := j1'
        clear h9r' hwr' j0' j1'
        have hK := keepFacts_t ba va2 bn bc vn2 vc2 bs vs2 w51 ((unhide HTZ).on h9r).row TV2.row (unhide HTZ).len TV2.len (by omega) (unhide HTZ).len1k (by rw [unhide EZ, TV2.eq])
        clear TV2
        go_wp2_with fail
        refine (hK).mono ?_
        rintro e w30 ⟨rfl, hbc⟩
        have h9r' := bt h9r hbc
        have hwr' := bt hwr hbc
        have j0' := cell_on hbc j0
        have j1' := cell_on hbc j1
        clear h9r hwr j0 j1 hbc
        have h9r := h9r'
        have hwr := hwr'
        have j0 := j0'
        have j1 := j1'
        clear h9r' hwr' j0' j1'
        clear hK
        have hS1 := spoil2_told w6 w30 (unhide HTO) (Nat.le_refl _) ((unhide HTO).on (bt (bt (bt hb7 hb8) hb9) h9r)) (by omega)
        go_wp2_with fail
        refine hS1.mono ?_
        rintro e w41 ⟨rfl, s1⟩
        have P1 := ((unhide HTP).on (bt (bt hb8 hb9) h9r)).sw s1 (Nat.le_refl _)
        have D1 := ((unhide HTD).on (bt hb9 h9r)).sw s1 hb7.size
        have Z1 := ((unhide HTZ).on h9r).sw s1 (Nat.le_trans hb7.size hb8.size)
        have hS2 := spoil2_told w7 w41 (unhide HTP) (Nat.le_refl _) P1 (by omega)
        clear hS1
        go_wp2_with fail
        refine hS2.mono ?_
        rintro e w42 ⟨rfl, s2⟩
        have D2 := D1.sw s2 (Nat.le_refl _)
        have Z2 := Z1.sw s2 hb8.size
        have hS3 := spoil2_told w8 w42 (unhide HTD) (Nat.le_refl _) D2 (by omega)
        clear hS2 P1 D1 Z1
        go_wp2_with fail
        refine hS3.mono ?_
        rintro e w43 ⟨rfl, s3⟩
        have Z3 := Z2.sw s3 (Nat.le_refl _)
        have hS4 := spoil2_told w9 w43 (unhide HTZ) (Nat.le_refl _) Z3 (by omega)
        clear hS3 D2 Z2
        go_wp2_with fail
        refine hS4.mono ?_
        rintro e w44 ⟨rfl, s4⟩
        have k1 : Below w5.heap.size w5 w41 := (bt h59 h9r).trans s1.b
        have k2 := k1.trans (s2.b.mono h56.size)
        have k3 := k2.trans (s3.b.mono h57.size)
        have k4 := k3.trans (s4.b.mono h58.size)
        have hfin := bt hw5 k4
        have TA := (unhide HTA5).on k4
        have TB := (unhide HTB5).on k4
        have hK := keepFacts_t ta al tn tc ll cl ts xs w44 TA.row (hx.on hfin) TA.len (unhide HLX) (by omega) TA.len1k TA.eq
        have hK2 := fun W hb => keepFacts_t tb none un uc 0 0 us ys W (TB.on hb).row (hy.on (bt hfin hb)) TB.len (unhide HLY) (by omega) TB.len1k TB.eq
        clear hS4 Z3 k1 k2 k3 k4 s1 s2 s3 s4 TA TB j0 j1 h9r
        go_wp2_with fail
        refine hK.mono ?_
        rintro e w45 ⟨rfl, hb45⟩
        have hK2' := hK2 w45 hb45
        clear hK hK2
        go_wp2_with fail
        refine hK2'.mono ?_
        rintro e w46 ⟨rfl, hb46⟩
        clear hK2'
        go_wp2_with fail
        refine (wakes_any w46).mono ?_
        rintro e w47 ⟨rfl, hb47⟩
        have hend := bt (bt (bt hfin hb45) hb46) hb47
        go_wp2_with fail
        go_ret
        exact ⟨rfl, hend⟩
      | some ad =>
        have hcs : Hid (∀ (j : Nat) (u : Value), (flatF ys)[j]? = some u → w40.cell? (ad.add j) = some u) := by
          refine hide ?_
          rcases hyr.2 with h | ⟨b, o, h, hlt, hc⟩
          · rw [h]; intro j u hu; simp [flatF] at hu
          · simp only [Option.some.injEq] at h
            subst h
            intro j u hu
            rw [WideShapes.add_plain]
            exact flatF_cells ys hc j u hu
        have LY : Hid ((flatF ys).length = lm * 2) := hide (by rw [flatF_len, ← unhide HLY])
        go_wp2_with (at_builtin; refine append_guard (by rfl) _ _ 22 rfl w29.heap.size 25 i0 (.agg #[.string ⟨#[]⟩, .slice none 0 0]) 2 40 Try.underlying22 hi hz0 hz1 hz2 rfl (by decide) _ vn (flatF vs) rfl (unhide HTV).made.own ad lm cm (flatF ys) rfl (unhide LY) (unhide hcs) (flatF_oneCell ys) (unhide M1) (unhide B1) (unhide HBC).size ?_)
        intro v' w50 hown5 hgrow5
        obtain ⟨qa, qc, rfl⟩ := own_slice hown5
        obtain ⟨r1, r2, r3, r4⟩ := unhide HRO w50 qa (vn + lm) qc hown5 rfl hgrow5
        have hRf := refOf_any qa (vn + lm) qc (vs ++ ys) w50 r1 (Nat.le_of_eq r2) (Nat.le_of_eq r2.symm) (Nat.le_trans (Nat.add_le_add hv60 hm60) (by decide)) r3
        rw [unhide HEQ] at hRf
        have h4 := r4
        clear r1 r2 r3 r4 HRO HEQ hown5 hgrow5 hcs LY M1 B1
        clear HBC hyr HTV hbc h9r' hwr' hi hz0 hz1 hz2
        have h9r1 := bt h9r h4
        have hwr1 := bt hwr h4
        have j01 := cell_on h4 j0
        have j11 := cell_on h4 j1
        clear h9r hwr j0 j1 h4
        have h9r := h9r1
        have hwr := hwr1
        have j0 := j01
        have j1 := j11
        clear h9r1 hwr1 j01 j11
        go_wp2_with fail
        refine hRf.mono ?_
        rintro e w51 ⟨va2, vn2, vc2, vs2, rfl, TV2, hbc⟩
        have h9r' := bt h9r hbc
        have hwr' := bt hwr hbc
        have j0' := cell_on hbc j0
        have j1' := cell_on hbc j1
        clear h9r hwr j0 j1 hbc hRf
        have h9r := h9r'
        have hwr := hwr'
        have j0 := j0'
        have j1 := j1'
        clear h9r' hwr' j0' j1'
        have hK := keepFacts_t ba va2 bn bc vn2 vc2 bs vs2 w51 ((unhide HTZ).on h9r).row TV2.row (unhide HTZ).len TV2.len (by omega) (unhide HTZ).len1k (by rw [unhide EZ, TV2.eq])
        clear TV2
        go_wp2_with fail
        refine (hK).mono ?_
        rintro e w31 ⟨rfl, hbc⟩
        have h9r' := bt h9r hbc
        have hwr' := bt hwr hbc
        have j0' := cell_on hbc j0
        have j1' := cell_on hbc j1
        clear h9r hwr j0 j1 hbc
        have h9r := h9r'
        have hwr := hwr'
        have j0 := j0'
        have j1 := j1'
        clear h9r' hwr' j0' j1'
        clear hK
        have hS1 := spoil2_told w6 w31 (unhide HTO) (Nat.le_refl _) ((unhide HTO).on (bt (bt (bt hb7 hb8) hb9) h9r)) (by omega)
        go_wp2_with fail
        refine hS1.mono ?_
        rintro e w41 ⟨rfl, s1⟩
        have P1 := ((unhide HTP).on (bt (bt hb8 hb9) h9r)).sw s1 (Nat.le_refl _)
        have D1 := ((unhide HTD).on (bt hb9 h9r)).sw s1 hb7.size
        have Z1 := ((unhide HTZ).on h9r).sw s1 (Nat.le_trans hb7.size hb8.size)
        have hS2 := spoil2_told w7 w41 (unhide HTP) (Nat.le_refl _) P1 (by omega)
        clear hS1
        go_wp2_with fail
        refine hS2.mono ?_
        rintro e w42 ⟨rfl, s2⟩
        have D2 := D1.sw s2 (Nat.le_refl _)
        have Z2 := Z1.sw s2 hb8.size
        have hS3 := spoil2_told w8 w42 (unhide HTD) (Nat.le_refl _) D2 (by omega)
        clear hS2 P1 D1 Z1
        go_wp2_with fail
        refine hS3.mono ?_
        rintro e w43 ⟨rfl, s3⟩
        have Z3 := Z2.sw s3 (Nat.le_refl _)
        have hS4 := spoil2_told w9 w43 (unhide HTZ) (Nat.le_refl _) Z3 (by omega)
        clear hS3 D2 Z2
        go_wp2_with fail
        refine hS4.mono ?_
        rintro e w44 ⟨rfl, s4⟩
        have k1 : Below w5.heap.size w5 w41 := (bt h59 h9r).trans s1.b
        have k2 := k1.trans (s2.b.mono h56.size)
        have k3 := k2.trans (s3.b.mono h57.size)
        have k4 := k3.trans (s4.b.mono h58.size)
        have hfin := bt hw5 k4
        have TA := (unhide HTA5).on k4
        have TB := (unhide HTB5).on k4
        have hK := keepFacts_t ta al tn tc ll cl ts xs w44 TA.row (hx.on hfin) TA.len (unhide HLX) (by omega) TA.len1k TA.eq
        have hK2 := fun W hb => keepFacts_t tb (some ad) un uc lm cm us ys W (TB.on hb).row (hy.on (bt hfin hb)) TB.len (unhide HLY) (by omega) TB.len1k TB.eq
        clear hS4 Z3 k1 k2 k3 k4 s1 s2 s3 s4 TA TB j0 j1 h9r
        go_wp2_with fail
        refine hK.mono ?_
        rintro e w45 ⟨rfl, hb45⟩
        have hK2' := hK2 w45 hb45
        clear hK hK2
        go_wp2_with fail
        refine hK2'.mono ?_
        rintro e w46 ⟨rfl, hb46⟩
        clear hK2'
        go_wp2_with fail
        refine (wakes_any w46).mono ?_
        rintro e w47 ⟨rfl, hb47⟩
        have hend := bt (bt (bt hfin hb45) hb46) hb47
        go_wp2_with fail
        go_ret
        exact ⟨rfl, hend⟩
end Go.Proofs.Ytmnonjacomabbaa
