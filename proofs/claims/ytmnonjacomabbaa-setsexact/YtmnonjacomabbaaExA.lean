/- The walks of constablelaw04.SetsExact: where the list is no set, and where it is one and neither the fact is right nor the other list a set. -/
import Derived.Test.YtmnonjacomabbaaSetV
namespace Go.Proofs.Ytmnonjacomabbaa
open Go.RowKit
open V

set_option maxHeartbeats 16000000 in
set_option maxRecDepth 100000 in
theorem exact_ffff (rf r2 : Bool) (al am : Option Addr) (ll cl lm cm : Nat) (xs ys : List Fb) (f : Fb) (w : World) (hx : RowF w al xs) (hy : RowF w am ys) (hlx : ll = xs.length) (hly : lm = ys.length) (nx : ∀ f ∈ xs, f.a = none → f.cap = 0) (ny : ∀ f ∈ ys, f.a = none → f.cap = 0) (nm : am = none → cm = 0) (hf : f.In w)
    (Hp : Hid ((xs.map Fb.l).all rightF = false)) (H1 : Hid (setB (xs.map Fb.l) = false)) (HF : Hid (rightF f.l = rf)) (H2 : Hid (setB (ys.map Fb.l) = r2)) :
    Calls Try.prog 3 #[.slice al ll cl, .slice am lm cm, .agg #[.string f.n, .slice f.a f.len f.cap]] w fun e w' => e = .returned (.bool true) ∧ Below w.heap.size w w' := by
  have hba : Below w.heap.size w (w.alloc (bxO f)) := (Below.refl _ _).alloc (Nat.le_refl _) _
  obtain ⟨j0, j1⟩ := pair_of (heap_alloc_new w (bxO f))
  have hm1 := many_any al ll cl xs _ (hx.on hba) (by omega) (by omega)
  have hm2 := fun W hb => many_any am lm cm ys W (hy.on hb) (by omega) (by omega)
  have hx1 : ll ≤ xs.length := by omega
  have hx2 : xs.length ≤ ll := by omega
  have hy1 : lm ≤ ys.length := by omega
  have hy2 : ys.length ≤ lm := by omega
  have HLX := hide hlx
  have HLY := hide hly
  have NX := hide nx
  have NY := hide ny
  have NM := hide nm
  clear hlx hly nx ny nm
  go_enter Try.func3, Try.ntmps3
  go_wp2_with fail
  refine hm1.mono ?_
  rintro e w1 ⟨rfl | ⟨rfl, hl60, hLx⟩, hb1⟩
  · have hw1 := bt hba hb1
    clear hm1 hm2 j0 j1
    go_wp2_with fail
    go_ret
    exact ⟨rfl, hw1⟩
  have hm2' := hm2 w1 (bt hba hb1)
  have i0 := cell_on hb1 j0
  have i1 := cell_on hb1 j1
  have hw1 := bt hba hb1
  clear hm1 hm2 hba hb1 j0 j1
  go_wp2_with fail
  refine hm2'.mono ?_
  rintro e w2 ⟨rfl | ⟨rfl, hm60, hLy⟩, hb2⟩
  · have hw2 := bt hw1 hb2
    clear hm2' i0 i1
    go_wp2_with fail
    go_ret
    exact ⟨rfl, hw2⟩
  have hh := heavy_fb f w2 (hf.on (bt hw1 hb2))
  have j0 := cell_on hb2 i0
  have j1 := cell_on hb2 i1
  have hw2 := bt hw1 hb2
  clear hm2' hw1 hb2 i0 i1
  go_wp2_with fail
  refine hh.mono ?_
  rintro e w3 ⟨rfl | ⟨rfl, lf⟩, hb3⟩
  · have hw3 := bt hw2 hb3
    clear hh j0 j1
    go_wp2_with fail
    go_ret
    exact ⟨rfl, hw3⟩
  have i0 := cell_on hb3 j0
  have i1 := cell_on hb3 j1
  have hw3 := bt hw2 hb3
  clear hh hw2 hb3 j0 j1
  have ht1 := twins_any al ll cl xs w3 (hx.on hw3) hx1 hx2 (by omega) hLx (unhide NX)
  go_wp2_with fail
  refine ht1.mono ?_
  rintro e w4 ⟨ta, tn, tc, ts, rfl, TA, hb4⟩
  have hw4 := bt hw3 hb4
  have j0 := cell_on hb4 i0
  have j1 := cell_on hb4 i1
  have ht2 := twins_any am lm cm ys w4 (hy.on hw4) hy1 hy2 (by omega) hLy (unhide NY)
  have HTA := hide TA
  clear ht1 TA hw3 i0 i1
  go_wp2_with fail
  refine ht2.mono ?_
  rintro e w5 ⟨tb, un, uc, us, rfl, TB, hb5⟩
  have hw5 := bt hw4 hb5
  have c0 := cell_on hb5 j0
  have c1 := cell_on hb5 j1
  have TA := (unhide HTA).on hb5
  have ht60 : tn ≤ 60 := by rw [TA.lenl, List.length_map]; omega
  have hu60 : un ≤ 60 := by rw [TB.lenl, List.length_map]; omega
  have HTA5 := hide TA
  have HTB5 := hide TB
  have hO := of_any false ta tn tc ts w5 TA.row TA.len (by omega) TA.light TA.nil (by rw [TA.eq]; exact unhide Hp)
  clear ht2 TA TB HTA hw4 hb4 hb5 j0 j1
  go_wp2_with fail
  refine hO.mono ?_
  rintro e w6 ⟨oa, on, oc, os, rfl, TO, hb6⟩
  rw [show chk false = 1 from rfl]
  have eO : os.map Fb.l = [] := by rw [TO.eq]; rfl
  have EO := hide eO
  have HTO := hide TO
  have lO : on ≤ 60 := by
    have h1 := TO.len
    have h2 := congrArg List.length eO
    
    simp only [List.length_map, List.length_nil] at h2
    omega
  have on0 : on = 0 := by
    have h1 := TO.len
    have h2 := congrArg List.length eO
    simp only [List.length_map, List.length_nil] at h2
    omega
  subst on0
  have i0 := cell_on hb6 c0
  have i1 := cell_on hb6 c1
  have h56 := hb6
  have TA := (unhide HTA5).on h56
  have hP := put_any false rf ta tn tc ts f w6 TA.row (hf.on (bt hw5 h56)) TA.len (by omega) TA.cap TA.light lf (by rw [TA.eq]; exact unhide H1) (unhide HF)
  clear hO TO eO TA c0 c1
  go_wp2_with fail
  refine hP.mono ?_
  rintro e w7 ⟨pa, pn, pc, ps, rfl, TP, hb7⟩
  rw [show chk (false && rf) = 1 from rfl]
  have eP : ps.map Fb.l = [] := by rw [TP.eq]; rfl
  have EP := hide eP
  have HTP := hide TP
  have lP : pn ≤ 61 := by
    have h1 := TP.len
    have h2 := congrArg List.length eP
    
    simp only [List.length_map, List.length_nil] at h2
    omega
  have c0 := cell_on hb7 i0
  have c1 := cell_on hb7 i1
  have h57 := bt h56 hb7
  have TA := (unhide HTA5).on h57
  have hD := drop_any false rf ta tn tc ts f w7 TA.row (hf.on (bt hw5 h57)) TA.len (by omega) TA.cap TA.light lf (by rw [TA.eq]; exact unhide H1) (unhide HF)
  have pn0 : pn = 0 := by
    have h1 := TP.len
    have h2 := congrArg List.length eP
    simp only [List.length_map, List.length_nil] at h2
    omega
  subst pn0
  clear hP TP eP TA i0 i1
  go_wp2_with fail
  refine hD.mono ?_
  rintro e w8 ⟨da, dn, dc, ds, rfl, TD, hb8⟩
  rw [show chk (false && rf) = 1 from rfl]
  have eD : ds.map Fb.l = [] := by rw [TD.eq]; rfl
  have ED := hide eD
  have HTD := hide TD
  have lD : dn ≤ 61 := by
    have h1 := TD.len
    have h2 := congrArg List.length eD
    
    simp only [List.length_map, List.length_nil] at h2
    omega
  have i0 := cell_on hb8 c0
  have i1 := cell_on hb8 c1
  have h58 := bt h57 hb8
  have TA := (unhide HTA5).on h58
  have TB := (unhide HTB5).on h58
  have hB := both_any false r2 ta tb tn tc un uc ts us w8 TA.row TB.row TA.len TB.len (by omega) (by omega) TA.light TB.light TA.nil TB.nil (by rw [TA.eq]; exact unhide H1) (by rw [TB.eq]; exact unhide H2)
  have dn0 : dn = 0 := by
    have h1 := TD.len
    have h2 := congrArg List.length eD
    simp only [List.length_map, List.length_nil] at h2
    omega
  subst dn0
  clear hD TD eD TA TB c0 c1
  go_wp2_with fail
  refine hB.mono ?_
  rintro e w9 ⟨ba, bn, bc, bs, rfl, TZ, hb9⟩
  rw [show chk (false && r2) = 1 from rfl]
  have eZ : bs.map Fb.l = [] := by rw [TZ.eq]; rfl
  have EZ := hide eZ
  have HTZ := hide TZ
  have lZ : bn ≤ 120 := by
    have h1 := TZ.len
    have h2 := congrArg List.length eZ
    
    simp only [List.length_map, List.length_nil] at h2
    omega
  have bn0 : bn = 0 := by
    have h1 := TZ.len
    have h2 := congrArg List.length eZ
    simp only [List.length_map, List.length_nil] at h2
    omega
  subst bn0
  have c0 := cell_on hb9 i0
  have c1 := cell_on hb9 i1
  have h59 := bt h58 hb9
  have TA := (unhide HTA5).on h59
  have hw9 := bt hw5 h59
  obtain ⟨q, hq⟩ : ∃ q, decide (f.l ∈ xs.map Fb.l) = q := ⟨_, rfl⟩
  have F1 := cls (wr := w9) (fun W hb => has_any ta tn tc ts f q W (TA.on hb).row (hf.on (bt hw9 hb)) (by rw [TA.len]; omega) (by rw [← TA.len]; omega) (by omega) TA.len1k (hide (by rw [TA.eq]; exact hq)))
  have F2 := cls (wr := w9) (fun W hb => refHas_any al ll cl xs f q W (hx.on (bt hw9 hb)) (hf.on (bt hw9 hb)) hx1 hx2 (by omega) (fun g hg => by have := (hLx g hg).len; omega) (hide hq))
  have m0 := cell_regrown c0
  have m1 := cell_regrown c1
  have hqq : (q != q) = false := by simp
  clear hB TZ eZ TA i0 i1 hq
  go_wp2_with fail
  refine wp_region_quiet_below (by kernel_rfl) (by kernel_rfl) ?_
  repeat (go_big_quiet_step (first | with_reducible exact F1 _ _ | with_reducible exact F2 _ _))
  refine wpQuiet_nil ?_
  intro _ hw'
  obtain ⟨⟨dq, osq⟩, hw''⟩ := hw'
  subst hw''
  have hb10 := below_regrown w9 dq osq
  have i0 := cell_on hb10 c0
  have i1 := cell_on hb10 c1
  clear F1 F2 m0 m1 c0 c1
  generalize Sort.grow (redrawn w9 dq) osq = w10 at hb10 i0 i1 ⊢
  have h910 := hb10
  clear hb10
  go_wp2_with fail
  go_loopw [17, 18] (fun v i wr => ∃ (k : Nat) (bb : Bool), k ≤ ll ∧ i = .int .i64 k ∧ v = .bool bb ∧ Hid (((xs.take k).map Fb.l).all rightF = bb) ∧ Below w10.heap.size w10 wr) (fun _ i _ => ll - (intOf i).toNat)
  case atStart => exact ⟨0, true, Nat.zero_le _, rfl, rfl, hide rfl, Below.refl _ _⟩
  case round =>
    obtain ⟨k, bb, hk, rfl, rfl, HB, hbw⟩ := hrel
    by_cases hlt : k < ll
    · have hrow := hx.on (bt hw9 (bt h910 hbw))
      obtain ⟨b, o, ha, hbl, d0, d1, hin⟩ := hrow.up (show k < xs.length by omega)
      subst ha
      have lx := hLx xs[k] (List.getElem_mem (by omega))
      have HE : Hid (∀ z, rightF xs[k].l = z → ((xs.take (k + 1)).map Fb.l).all rightF = (bb && z)) := by
        refine hide (fun z hz => ?_)
        rw [take_l xs k (by omega), List.all_append, unhide HB]
        simp [hz]
      obtain ⟨z, hz⟩ : ∃ z, rightF xs[k].l = z := ⟨_, rfl⟩
      have HN := hide (unhide HE z hz)
      have HZ := hide hz
      clear HE hz hrow
      generalize xs[k] = x at d0 d1 hin lx HZ
      cases bb with
      | true =>
        rw [Bool.true_and] at HN
        have hr := refFact_q x z wr hin lx HZ
        go_wp2_with fail
        refine hr.mono ?_
        rintro e wq ⟨rfl, hbq⟩
        have hbw' := bt hbw hbq
        clear hr d0 d1 hin
        go_wp2_with fail
        go_roundw
        case rel => exact ⟨k + 1, z, by omega, by go_num, rfl, HN, hbw'⟩
        case measure => simp [intOf]; omega
      | false =>
        rw [Bool.false_and] at HN
        clear d0 d1 hin
        go_wp2_with fail
        go_roundw
        case rel => exact ⟨k + 1, false, by omega, by go_num, rfl, HN, hbw⟩
        case measure => simp [intOf]; omega
    · have hbb : bb = false := by
        have h := unhide HB
        rw [List.take_of_length_le (by omega)] at h
        rw [← h]; exact unhide Hp
      subst hbb
      have j0 := cell_on hbw i0
      have j1 := cell_on hbw i1
      have h9r := bt h910 hbw
      have hwr := bt hw9 h9r
      clear HB hbw h910 i0 i1
      go_wp2_with fail
      refine (refSet_any al ll cl xs false wr (hx.on hwr) hx1 hx2 (by omega) hLx H1).mono ?_
      rintro e w21 ⟨rfl, hbc⟩
      have h9r' := bt h9r hbc
      have hwr' := bt hwr hbc
      have j0' := cell_on hbc j0
      have j1' := cell_on hbc j1
      clear h9r hwr j0 j1 hbc
      have h9r := h9r'
      have hwr := hwr'
      have j0 := j0'
      have j1 := j1'
      clear h9r' hwr' j0' j1'
      go_wp2_with fail
      refine (scheck_x ta tn tc ts 1 w21 ((unhide HTA5).on (bt h59 h9r)).row (by rw [(unhide HTA5).len]; omega) (by rw [← (unhide HTA5).len]; omega) (by omega) (unhide HTA5).light (hide (by rw [(unhide HTA5).eq, unhide H1]; rfl))).mono ?_
      rintro e w22 ⟨rfl, hbc⟩
      have h9r' := bt h9r hbc
      have hwr' := bt hwr hbc
      have j0' := cell_on hbc j0
      have j1' := cell_on hbc j1
      clear h9r hwr j0 j1 hbc
      have h9r := h9r'
      have hwr := hwr'
      have j0 := j0'
      have j1 := j1'
      clear h9r' hwr' j0' j1'
      go_wp2_with fail
      refine (scheck_x ta tn tc ts 1 w22 ((unhide HTA5).on (bt h59 h9r)).row (by rw [(unhide HTA5).len]; omega) (by rw [← (unhide HTA5).len]; omega) (by omega) (unhide HTA5).light (hide (by rw [(unhide HTA5).eq, unhide H1]; rfl))).mono ?_
      rintro e w23 ⟨rfl, hbc⟩
      have h9r' := bt h9r hbc
      have hwr' := bt hwr hbc
      have j0' := cell_on hbc j0
      have j1' := cell_on hbc j1
      clear h9r hwr j0 j1 hbc
      have h9r := h9r'
      have hwr := hwr'
      have j0 := j0'
      have j1 := j1'
      clear h9r' hwr' j0' j1'
      have hS1 := spoil2_told w6 w23 (unhide HTO) (Nat.le_refl _) ((unhide HTO).on (bt (bt (bt hb7 hb8) hb9) h9r)) (by omega)
      go_wp2_with fail
      refine hS1.mono ?_
      rintro e w41 ⟨rfl, s1⟩
      have P1 := ((unhide HTP).on (bt (bt hb8 hb9) h9r)).sw s1 (Nat.le_refl _)
      have D1 := ((unhide HTD).on (bt hb9 h9r)).sw s1 hb7.size
      have Z1 := ((unhide HTZ).on h9r).sw s1 (Nat.le_trans hb7.size hb8.size)
      have hS2 := spoil2_told w7 w41 (unhide HTP) (Nat.le_refl _) P1 (by omega)
      clear hS1
      go_wp2_with fail
      refine hS2.mono ?_
      rintro e w42 ⟨rfl, s2⟩
      have D2 := D1.sw s2 (Nat.le_refl _)
      have Z2 := Z1.sw s2 hb8.size
      have hS3 := spoil2_told w8 w42 (unhide HTD) (Nat.le_refl _) D2 (by omega)
      clear hS2 P1 D1 Z1
      go_wp2_with fail
      refine hS3.mono ?_
      rintro e w43 ⟨rfl, s3⟩
      have Z3 := Z2.sw s3 (Nat.le_refl _)
      have hS4 := spoil2_told w9 w43 (unhide HTZ) (Nat.le_refl _) Z3 (by omega)
      clear hS3 D2 Z2
      go_wp2_with fail
      refine hS4.mono ?_
      rintro e w44 ⟨rfl, s4⟩
      have k1 : Below w5.heap.size w5 w41 := (bt h59 h9r).trans s1.b
      have k2 := k1.trans (s2.b.mono h56.size)
      have k3 := k2.trans (s3.b.mono h57.size)
      have k4 := k3.trans (s4.b.mono h58.size)
      have hfin := bt hw5 k4
      have TA := (unhide HTA5).on k4
      have TB := (unhide HTB5).on k4
      have hK := keepFacts_t ta al tn tc ll cl ts xs w44 TA.row (hx.on hfin) TA.len (unhide HLX) (by omega) TA.len1k TA.eq
      have hK2 := fun W hb => keepFacts_t tb am un uc lm cm us ys W (TB.on hb).row (hy.on (bt hfin hb)) TB.len (unhide HLY) (by omega) TB.len1k TB.eq
      clear hS4 Z3 k1 k2 k3 k4 s1 s2 s3 s4 TA TB j0 j1 h9r
      go_wp2_with fail
      refine hK.mono ?_
      rintro e w45 ⟨rfl, hb45⟩
      have hK2' := hK2 w45 hb45
      clear hK hK2
      go_wp2_with fail
      refine hK2'.mono ?_
      rintro e w46 ⟨rfl, hb46⟩
      clear hK2'
      go_wp2_with fail
      refine (wakes_any w46).mono ?_
      rintro e w47 ⟨rfl, hb47⟩
      have hend := bt (bt (bt hfin hb45) hb46) hb47
      go_wp2_with fail
      go_ret
      exact ⟨rfl, hend⟩

set_option maxHeartbeats 16000000 in
set_option maxRecDepth 100000 in
theorem exact_tfff (rf r2 : Bool) (al am : Option Addr) (ll cl lm cm : Nat) (xs ys : List Fb) (f : Fb) (w : World) (hx : RowF w al xs) (hy : RowF w am ys) (hlx : ll = xs.length) (hly : lm = ys.length) (nx : ∀ f ∈ xs, f.a = none → f.cap = 0) (ny : ∀ f ∈ ys, f.a = none → f.cap = 0) (nm : am = none → cm = 0) (hf : f.In w)
    (Hp : Hid ((xs.map Fb.l).all rightF = true)) (H1 : Hid (setB (xs.map Fb.l) = false)) (HF : Hid (rightF f.l = rf)) (H2 : Hid (setB (ys.map Fb.l) = r2)) :
    Calls Try.prog 3 #[.slice al ll cl, .slice am lm cm, .agg #[.string f.n, .slice f.a f.len f.cap]] w fun e w' => e = .returned (.bool true) ∧ Below w.heap.size w w' := by
  have hba : Below w.heap.size w (w.alloc (bxO f)) := (Below.refl _ _).alloc (Nat.le_refl _) _
  obtain ⟨j0, j1⟩ := pair_of (heap_alloc_new w (bxO f))
  have hm1 := many_any al ll cl xs _ (hx.on hba) (by omega) (by omega)
  have hm2 := fun W hb => many_any am lm cm ys W (hy.on hb) (by omega) (by omega)
  have hx1 : ll ≤ xs.length := by omega
  have hx2 : xs.length ≤ ll := by omega
  have hy1 : lm ≤ ys.length := by omega
  have hy2 : ys.length ≤ lm := by omega
  have HLX := hide hlx
  have HLY := hide hly
  have NX := hide nx
  have NY := hide ny
  have NM := hide nm
  clear hlx hly nx ny nm
  go_enter Try.func3, Try.ntmps3
  go_wp2_with fail
  refine hm1.mono ?_
  rintro e w1 ⟨rfl | ⟨rfl, hl60, hLx⟩, hb1⟩
  · have hw1 := bt hba hb1
    clear hm1 hm2 j0 j1
    go_wp2_with fail
    go_ret
    exact ⟨rfl, hw1⟩
  have hm2' := hm2 w1 (bt hba hb1)
  have i0 := cell_on hb1 j0
  have i1 := cell_on hb1 j1
  have hw1 := bt hba hb1
  clear hm1 hm2 hba hb1 j0 j1
  go_wp2_with fail
  refine hm2'.mono ?_
  rintro e w2 ⟨rfl | ⟨rfl, hm60, hLy⟩, hb2⟩
  · have hw2 := bt hw1 hb2
    clear hm2' i0 i1
    go_wp2_with fail
    go_ret
    exact ⟨rfl, hw2⟩
  have hh := heavy_fb f w2 (hf.on (bt hw1 hb2))
  have j0 := cell_on hb2 i0
  have j1 := cell_on hb2 i1
  have hw2 := bt hw1 hb2
  clear hm2' hw1 hb2 i0 i1
  go_wp2_with fail
  refine hh.mono ?_
  rintro e w3 ⟨rfl | ⟨rfl, lf⟩, hb3⟩
  · have hw3 := bt hw2 hb3
    clear hh j0 j1
    go_wp2_with fail
    go_ret
    exact ⟨rfl, hw3⟩
  have i0 := cell_on hb3 j0
  have i1 := cell_on hb3 j1
  have hw3 := bt hw2 hb3
  clear hh hw2 hb3 j0 j1
  have ht1 := twins_any al ll cl xs w3 (hx.on hw3) hx1 hx2 (by omega) hLx (unhide NX)
  go_wp2_with fail
  refine ht1.mono ?_
  rintro e w4 ⟨ta, tn, tc, ts, rfl, TA, hb4⟩
  have hw4 := bt hw3 hb4
  have j0 := cell_on hb4 i0
  have j1 := cell_on hb4 i1
  have ht2 := twins_any am lm cm ys w4 (hy.on hw4) hy1 hy2 (by omega) hLy (unhide NY)
  have HTA := hide TA
  clear ht1 TA hw3 i0 i1
  go_wp2_with fail
  refine ht2.mono ?_
  rintro e w5 ⟨tb, un, uc, us, rfl, TB, hb5⟩
  have hw5 := bt hw4 hb5
  have c0 := cell_on hb5 j0
  have c1 := cell_on hb5 j1
  have TA := (unhide HTA).on hb5
  have ht60 : tn ≤ 60 := by rw [TA.lenl, List.length_map]; omega
  have hu60 : un ≤ 60 := by rw [TB.lenl, List.length_map]; omega
  have HTA5 := hide TA
  have HTB5 := hide TB
  have hO := of_any true ta tn tc ts w5 TA.row TA.len (by omega) TA.light TA.nil (by rw [TA.eq]; exact unhide Hp)
  clear ht2 TA TB HTA hw4 hb4 hb5 j0 j1
  go_wp2_with fail
  refine hO.mono ?_
  rintro e w6 ⟨oa, on, oc, os, rfl, TO, hb6⟩
  rw [show chk true = 0 from rfl]
  have eO : os.map Fb.l = ofL cmpF (xs.map Fb.l) := by rw [TO.eq]; rw [(unhide HTA5).eq]; rfl
  have EO := hide eO
  have HTO := hide TO
  have lO : on ≤ 60 := by
    have h1 := TO.len
    have h2 := congrArg List.length eO
    have h3 := len_of_le (l := xs.map Fb.l)
    simp only [List.length_map] at h2 h3
    omega
  have i0 := cell_on hb6 c0
  have i1 := cell_on hb6 c1
  have h56 := hb6
  have TA := (unhide HTA5).on h56
  have hP := put_any false rf ta tn tc ts f w6 TA.row (hf.on (bt hw5 h56)) TA.len (by omega) TA.cap TA.light lf (by rw [TA.eq]; exact unhide H1) (unhide HF)
  clear hO TO eO TA c0 c1
  go_wp2_with fail
  refine hP.mono ?_
  rintro e w7 ⟨pa, pn, pc, ps, rfl, TP, hb7⟩
  rw [show chk (false && rf) = 1 from rfl]
  have eP : ps.map Fb.l = [] := by rw [TP.eq]; rfl
  have EP := hide eP
  have HTP := hide TP
  have lP : pn ≤ 61 := by
    have h1 := TP.len
    have h2 := congrArg List.length eP
    
    simp only [List.length_map, List.length_nil] at h2
    omega
  have c0 := cell_on hb7 i0
  have c1 := cell_on hb7 i1
  have h57 := bt h56 hb7
  have TA := (unhide HTA5).on h57
  have hD := drop_any false rf ta tn tc ts f w7 TA.row (hf.on (bt hw5 h57)) TA.len (by omega) TA.cap TA.light lf (by rw [TA.eq]; exact unhide H1) (unhide HF)
  have pn0 : pn = 0 := by
    have h1 := TP.len
    have h2 := congrArg List.length eP
    simp only [List.length_map, List.length_nil] at h2
    omega
  subst pn0
  clear hP TP eP TA i0 i1
  go_wp2_with fail
  refine hD.mono ?_
  rintro e w8 ⟨da, dn, dc, ds, rfl, TD, hb8⟩
  rw [show chk (false && rf) = 1 from rfl]
  have eD : ds.map Fb.l = [] := by rw [TD.eq]; rfl
  have ED := hide eD
  have HTD := hide TD
  have lD : dn ≤ 61 := by
    have h1 := TD.len
    have h2 := congrArg List.length eD
    
    simp only [List.length_map, List.length_nil] at h2
    omega
  have i0 := cell_on hb8 c0
  have i1 := cell_on hb8 c1
  have h58 := bt h57 hb8
  have TA := (unhide HTA5).on h58
  have TB := (unhide HTB5).on h58
  have hB := both_any false r2 ta tb tn tc un uc ts us w8 TA.row TB.row TA.len TB.len (by omega) (by omega) TA.light TB.light TA.nil TB.nil (by rw [TA.eq]; exact unhide H1) (by rw [TB.eq]; exact unhide H2)
  have dn0 : dn = 0 := by
    have h1 := TD.len
    have h2 := congrArg List.length eD
    simp only [List.length_map, List.length_nil] at h2
    omega
  subst dn0
  clear hD TD eD TA TB c0 c1
  go_wp2_with fail
  refine hB.mono ?_
  rintro e w9 ⟨ba, bn, bc, bs, rfl, TZ, hb9⟩
  rw [show chk (false && r2) = 1 from rfl]
  have eZ : bs.map Fb.l = [] := by rw [TZ.eq]; rfl
  have EZ := hide eZ
  have HTZ := hide TZ
  have lZ : bn ≤ 120 := by
    have h1 := TZ.len
    have h2 := congrArg List.length eZ
    
    simp only [List.length_map, List.length_nil] at h2
    omega
  have bn0 : bn = 0 := by
    have h1 := TZ.len
    have h2 := congrArg List.length eZ
    simp only [List.length_map, List.length_nil] at h2
    omega
  subst bn0
  have c0 := cell_on hb9 i0
  have c1 := cell_on hb9 i1
  have h59 := bt h58 hb9
  have TA := (unhide HTA5).on h59
  have hw9 := bt hw5 h59
  obtain ⟨q, hq⟩ : ∃ q, decide (f.l ∈ xs.map Fb.l) = q := ⟨_, rfl⟩
  have F1 := cls (wr := w9) (fun W hb => has_any ta tn tc ts f q W (TA.on hb).row (hf.on (bt hw9 hb)) (by rw [TA.len]; omega) (by rw [← TA.len]; omega) (by omega) TA.len1k (hide (by rw [TA.eq]; exact hq)))
  have F2 := cls (wr := w9) (fun W hb => refHas_any al ll cl xs f q W (hx.on (bt hw9 hb)) (hf.on (bt hw9 hb)) hx1 hx2 (by omega) (fun g hg => by have := (hLx g hg).len; omega) (hide hq))
  have m0 := cell_regrown c0
  have m1 := cell_regrown c1
  have hqq : (q != q) = false := by simp
  clear hB TZ eZ TA i0 i1 hq
  go_wp2_with fail
  refine wp_region_quiet_below (by kernel_rfl) (by kernel_rfl) ?_
  repeat (go_big_quiet_step (first | with_reducible exact F1 _ _ | with_reducible exact F2 _ _))
  refine wpQuiet_nil ?_
  intro _ hw'
  obtain ⟨⟨dq, osq⟩, hw''⟩ := hw'
  subst hw''
  have hb10 := below_regrown w9 dq osq
  have i0 := cell_on hb10 c0
  have i1 := cell_on hb10 c1
  clear F1 F2 m0 m1 c0 c1
  generalize Sort.grow (redrawn w9 dq) osq = w10 at hb10 i0 i1 ⊢
  have h910 := hb10
  clear hb10
  go_wp2_with fail
  go_loopw [17, 18] (fun v i wr => ∃ (k : Nat) (bb : Bool), k ≤ ll ∧ i = .int .i64 k ∧ v = .bool bb ∧ Hid (((xs.take k).map Fb.l).all rightF = bb) ∧ Below w10.heap.size w10 wr) (fun _ i _ => ll - (intOf i).toNat)
  case atStart => exact ⟨0, true, Nat.zero_le _, rfl, rfl, hide rfl, Below.refl _ _⟩
  case round =>
    obtain ⟨k, bb, hk, rfl, rfl, HB, hbw⟩ := hrel
    by_cases hlt : k < ll
    · have hrow := hx.on (bt hw9 (bt h910 hbw))
      obtain ⟨b, o, ha, hbl, d0, d1, hin⟩ := hrow.up (show k < xs.length by omega)
      subst ha
      have lx := hLx xs[k] (List.getElem_mem (by omega))
      have HE : Hid (∀ z, rightF xs[k].l = z → ((xs.take (k + 1)).map Fb.l).all rightF = (bb && z)) := by
        refine hide (fun z hz => ?_)
        rw [take_l xs k (by omega), List.all_append, unhide HB]
        simp [hz]
      obtain ⟨z, hz⟩ : ∃ z, rightF xs[k].l = z := ⟨_, rfl⟩
      have HN := hide (unhide HE z hz)
      have HZ := hide hz
      clear HE hz hrow
      generalize xs[k] = x at d0 d1 hin lx HZ
      cases bb with
      | true =>
        rw [Bool.true_and] at HN
        have hr := refFact_q x z wr hin lx HZ
        go_wp2_with fail
        refine hr.mono ?_
        rintro e wq ⟨rfl, hbq⟩
        have hbw' := bt hbw hbq
        clear hr d0 d1 hin
        go_wp2_with fail
        go_roundw
        case rel => exact ⟨k + 1, z, by omega, by go_num, rfl, HN, hbw'⟩
        case measure => simp [intOf]; omega
      | false =>
        rw [Bool.false_and] at HN
        clear d0 d1 hin
        go_wp2_with fail
        go_roundw
        case rel => exact ⟨k + 1, false, by omega, by go_num, rfl, HN, hbw⟩
        case measure => simp [intOf]; omega
    · have hbb : bb = true := by
        have h := unhide HB
        rw [List.take_of_length_le (by omega)] at h
        rw [← h]; exact unhide Hp
      subst hbb
      have j0 := cell_on hbw i0
      have j1 := cell_on hbw i1
      have h9r := bt h910 hbw
      have hwr := bt hw9 h9r
      clear HB hbw h910 i0 i1
      go_wp2_with fail
      refine (refOf_any al ll cl xs wr (hx.on hwr) hx1 hx2 (by omega) hLx).mono ?_
      rintro e w19 ⟨va, vn, vc, vs, rfl, TV, hbc⟩
      have h9r' := bt h9r hbc
      have hwr' := bt hwr hbc
      have j0' := cell_on hbc j0
      have j1' := cell_on hbc j1
      clear h9r hwr j0 j1 hbc
      have h9r := h9r'
      have hwr := hwr'
      have j0 := j0'
      have j1 := j1'
      clear h9r' hwr' j0' j1'
      have hK := keepFacts_t oa va on oc vn vc os vs w19 ((unhide HTO).on (bt (bt (bt hb7 hb8) hb9) h9r)).row TV.row (unhide HTO).len TV.len (by omega) (unhide HTO).len1k (by rw [unhide EO, TV.eq])
      clear TV
      go_wp2_with fail
      refine (hK).mono ?_
      rintro e w21 ⟨rfl, hbc⟩
      have h9r' := bt h9r hbc
      have hwr' := bt hwr hbc
      have j0' := cell_on hbc j0
      have j1' := cell_on hbc j1
      clear h9r hwr j0 j1 hbc
      have h9r := h9r'
      have hwr := hwr'
      have j0 := j0'
      have j1 := j1'
      clear h9r' hwr' j0' j1'
      clear hK
      go_wp2_with fail
      refine (refSet_any al ll cl xs false w21 (hx.on hwr) hx1 hx2 (by omega) hLx H1).mono ?_
      rintro e w22 ⟨rfl, hbc⟩
      have h9r' := bt h9r hbc
      have hwr' := bt hwr hbc
      have j0' := cell_on hbc j0
      have j1' := cell_on hbc j1
      clear h9r hwr j0 j1 hbc
      have h9r := h9r'
      have hwr := hwr'
      have j0 := j0'
      have j1 := j1'
      clear h9r' hwr' j0' j1'
      go_wp2_with fail
      refine (scheck_x ta tn tc ts 1 w22 ((unhide HTA5).on (bt h59 h9r)).row (by rw [(unhide HTA5).len]; omega) (by rw [← (unhide HTA5).len]; omega) (by omega) (unhide HTA5).light (hide (by rw [(unhide HTA5).eq, unhide H1]; rfl))).mono ?_
      rintro e w23 ⟨rfl, hbc⟩
      have h9r' := bt h9r hbc
      have hwr' := bt hwr hbc
      have j0' := cell_on hbc j0
      have j1' := cell_on hbc j1
      clear h9r hwr j0 j1 hbc
      have h9r := h9r'
      have hwr := hwr'
      have j0 := j0'
      have j1 := j1'
      clear h9r' hwr' j0' j1'
      go_wp2_with fail
      refine (scheck_x ta tn tc ts 1 w23 ((unhide HTA5).on (bt h59 h9r)).row (by rw [(unhide HTA5).len]; omega) (by rw [← (unhide HTA5).len]; omega) (by omega) (unhide HTA5).light (hide (by rw [(unhide HTA5).eq, unhide H1]; rfl))).mono ?_
      rintro e w24 ⟨rfl, hbc⟩
      have h9r' := bt h9r hbc
      have hwr' := bt hwr hbc
      have j0' := cell_on hbc j0
      have j1' := cell_on hbc j1
      clear h9r hwr j0 j1 hbc
      have h9r := h9r'
      have hwr := hwr'
      have j0 := j0'
      have j1 := j1'
      clear h9r' hwr' j0' j1'
      have hS1 := spoil2_told w6 w24 (unhide HTO) (Nat.le_refl _) ((unhide HTO).on (bt (bt (bt hb7 hb8) hb9) h9r)) (by omega)
      go_wp2_with fail
      refine hS1.mono ?_
      rintro e w41 ⟨rfl, s1⟩
      have P1 := ((unhide HTP).on (bt (bt hb8 hb9) h9r)).sw s1 (Nat.le_refl _)
      have D1 := ((unhide HTD).on (bt hb9 h9r)).sw s1 hb7.size
      have Z1 := ((unhide HTZ).on h9r).sw s1 (Nat.le_trans hb7.size hb8.size)
      have hS2 := spoil2_told w7 w41 (unhide HTP) (Nat.le_refl _) P1 (by omega)
      clear hS1
      go_wp2_with fail
      refine hS2.mono ?_
      rintro e w42 ⟨rfl, s2⟩
      have D2 := D1.sw s2 (Nat.le_refl _)
      have Z2 := Z1.sw s2 hb8.size
      have hS3 := spoil2_told w8 w42 (unhide HTD) (Nat.le_refl _) D2 (by omega)
      clear hS2 P1 D1 Z1
      go_wp2_with fail
      refine hS3.mono ?_
      rintro e w43 ⟨rfl, s3⟩
      have Z3 := Z2.sw s3 (Nat.le_refl _)
      have hS4 := spoil2_told w9 w43 (unhide HTZ) (Nat.le_refl _) Z3 (by omega)
      clear hS3 D2 Z2
      go_wp2_with fail
      refine hS4.mono ?_
      rintro e w44 ⟨rfl, s4⟩
      have k1 : Below w5.heap.size w5 w41 := (bt h59 h9r).trans s1.b
      have k2 := k1.trans (s2.b.mono h56.size)
      have k3 := k2.trans (s3.b.mono h57.size)
      have k4 := k3.trans (s4.b.mono h58.size)
      have hfin := bt hw5 k4
      have TA := (unhide HTA5).on k4
      have TB := (unhide HTB5).on k4
      have hK := keepFacts_t ta al tn tc ll cl ts xs w44 TA.row (hx.on hfin) TA.len (unhide HLX) (by omega) TA.len1k TA.eq
      have hK2 := fun W hb => keepFacts_t tb am un uc lm cm us ys W (TB.on hb).row (hy.on (bt hfin hb)) TB.len (unhide HLY) (by omega) TB.len1k TB.eq
      clear hS4 Z3 k1 k2 k3 k4 s1 s2 s3 s4 TA TB j0 j1 h9r
      go_wp2_with fail
      refine hK.mono ?_
      rintro e w45 ⟨rfl, hb45⟩
      have hK2' := hK2 w45 hb45
      clear hK hK2
      go_wp2_with fail
      refine hK2'.mono ?_
      rintro e w46 ⟨rfl, hb46⟩
      clear hK2'
      go_wp2_with fail
      refine (wakes_any w46).mono ?_
      rintro e w47 ⟨rfl, hb47⟩
      have hend := bt (bt (bt hfin hb45) hb46) hb47
      go_wp2_with fail
      go_ret
      exact ⟨rfl, hend⟩

set_option maxHeartbeats 16000000 in
set_option maxRecDepth 100000 in
theorem exact_ttff (al am : Option Addr) (ll cl lm cm : Nat) (xs ys : List Fb) (f : Fb) (w : World) (hx : RowF w al xs) (hy : RowF w am ys) (hlx : ll = xs.length) (hly : lm = ys.length) (nx : ∀ f ∈ xs, f.a = none → f.cap = 0) (ny : ∀ f ∈ ys, f.a = none → f.cap = 0) (nm : am = none → cm = 0) (hf : f.In w)
    (Hp : Hid ((xs.map Fb.l).all rightF = true)) (H1 : Hid (setB (xs.map Fb.l) = true)) (HF : Hid (rightF f.l = false)) (H2 : Hid (setB (ys.map Fb.l) = false)) :
    Calls Try.prog 3 #[.slice al ll cl, .slice am lm cm, .agg #[.string f.n, .slice f.a f.len f.cap]] w fun e w' => e = .returned (.bool true) ∧ Below w.heap.size w w' := by
  have hba : Below w.heap.size w (w.alloc (bxO f)) := (Below.refl _ _).alloc (Nat.le_refl _) _
  obtain ⟨j0, j1⟩ := pair_of (heap_alloc_new w (bxO f))
  have hm1 := many_any al ll cl xs _ (hx.on hba) (by omega) (by omega)
  have hm2 := fun W hb => many_any am lm cm ys W (hy.on hb) (by omega) (by omega)
  have hx1 : ll ≤ xs.length := by omega
  have hx2 : xs.length ≤ ll := by omega
  have hy1 : lm ≤ ys.length := by omega
  have hy2 : ys.length ≤ lm := by omega
  have HLX := hide hlx
  have HLY := hide hly
  have NX := hide nx
  have NY := hide ny
  have NM := hide nm
  clear hlx hly nx ny nm
  go_enter Try.func3, Try.ntmps3
  go_wp2_with fail
  refine hm1.mono ?_
  rintro e w1 ⟨rfl | ⟨rfl, hl60, hLx⟩, hb1⟩
  · have hw1 := bt hba hb1
    clear hm1 hm2 j0 j1
    go_wp2_with fail
    go_ret
    exact ⟨rfl, hw1⟩
  have hm2' := hm2 w1 (bt hba hb1)
  have i0 := cell_on hb1 j0
  have i1 := cell_on hb1 j1
  have hw1 := bt hba hb1
  clear hm1 hm2 hba hb1 j0 j1
  go_wp2_with fail
  refine hm2'.mono ?_
  rintro e w2 ⟨rfl | ⟨rfl, hm60, hLy⟩, hb2⟩
  · have hw2 := bt hw1 hb2
    clear hm2' i0 i1
    go_wp2_with fail
    go_ret
    exact ⟨rfl, hw2⟩
  have hh := heavy_fb f w2 (hf.on (bt hw1 hb2))
  have j0 := cell_on hb2 i0
  have j1 := cell_on hb2 i1
  have hw2 := bt hw1 hb2
  clear hm2' hw1 hb2 i0 i1
  go_wp2_with fail
  refine hh.mono ?_
  rintro e w3 ⟨rfl | ⟨rfl, lf⟩, hb3⟩
  · have hw3 := bt hw2 hb3
    clear hh j0 j1
    go_wp2_with fail
    go_ret
    exact ⟨rfl, hw3⟩
  have i0 := cell_on hb3 j0
  have i1 := cell_on hb3 j1
  have hw3 := bt hw2 hb3
  clear hh hw2 hb3 j0 j1
  have ht1 := twins_any al ll cl xs w3 (hx.on hw3) hx1 hx2 (by omega) hLx (unhide NX)
  go_wp2_with fail
  refine ht1.mono ?_
  rintro e w4 ⟨ta, tn, tc, ts, rfl, TA, hb4⟩
  have hw4 := bt hw3 hb4
  have j0 := cell_on hb4 i0
  have j1 := cell_on hb4 i1
  have ht2 := twins_any am lm cm ys w4 (hy.on hw4) hy1 hy2 (by omega) hLy (unhide NY)
  have HTA := hide TA
  clear ht1 TA hw3 i0 i1
  go_wp2_with fail
  refine ht2.mono ?_
  rintro e w5 ⟨tb, un, uc, us, rfl, TB, hb5⟩
  have hw5 := bt hw4 hb5
  have c0 := cell_on hb5 j0
  have c1 := cell_on hb5 j1
  have TA := (unhide HTA).on hb5
  have ht60 : tn ≤ 60 := by rw [TA.lenl, List.length_map]; omega
  have hu60 : un ≤ 60 := by rw [TB.lenl, List.length_map]; omega
  have HTA5 := hide TA
  have HTB5 := hide TB
  have hO := of_any true ta tn tc ts w5 TA.row TA.len (by omega) TA.light TA.nil (by rw [TA.eq]; exact unhide Hp)
  clear ht2 TA TB HTA hw4 hb4 hb5 j0 j1
  go_wp2_with fail
  refine hO.mono ?_
  rintro e w6 ⟨oa, on, oc, os, rfl, TO, hb6⟩
  rw [show chk true = 0 from rfl]
  have eO : os.map Fb.l = ofL cmpF (xs.map Fb.l) := by rw [TO.eq]; rw [(unhide HTA5).eq]; rfl
  have EO := hide eO
  have HTO := hide TO
  have lO : on ≤ 60 := by
    have h1 := TO.len
    have h2 := congrArg List.length eO
    have h3 := len_of_le (l := xs.map Fb.l)
    simp only [List.length_map] at h2 h3
    omega
  have i0 := cell_on hb6 c0
  have i1 := cell_on hb6 c1
  have h56 := hb6
  have TA := (unhide HTA5).on h56
  have hP := put_any true false ta tn tc ts f w6 TA.row (hf.on (bt hw5 h56)) TA.len (by omega) TA.cap TA.light lf (by rw [TA.eq]; exact unhide H1) (unhide HF)
  clear hO TO eO TA c0 c1
  go_wp2_with fail
  refine hP.mono ?_
  rintro e w7 ⟨pa, pn, pc, ps, rfl, TP, hb7⟩
  rw [show chk (true && false) = 1 from rfl]
  have eP : ps.map Fb.l = [] := by rw [TP.eq]; rfl
  have EP := hide eP
  have HTP := hide TP
  have lP : pn ≤ 61 := by
    have h1 := TP.len
    have h2 := congrArg List.length eP
    
    simp only [List.length_map, List.length_nil] at h2
    omega
  have c0 := cell_on hb7 i0
  have c1 := cell_on hb7 i1
  have h57 := bt h56 hb7
  have TA := (unhide HTA5).on h57
  have hD := drop_any true false ta tn tc ts f w7 TA.row (hf.on (bt hw5 h57)) TA.len (by omega) TA.cap TA.light lf (by rw [TA.eq]; exact unhide H1) (unhide HF)
  have pn0 : pn = 0 := by
    have h1 := TP.len
    have h2 := congrArg List.length eP
    simp only [List.length_map, List.length_nil] at h2
    omega
  subst pn0
  clear hP TP eP TA i0 i1
  go_wp2_with fail
  refine hD.mono ?_
  rintro e w8 ⟨da, dn, dc, ds, rfl, TD, hb8⟩
  rw [show chk (true && false) = 1 from rfl]
  have eD : ds.map Fb.l = [] := by rw [TD.eq]; rfl
  have ED := hide eD
  have HTD := hide TD
  have lD : dn ≤ 61 := by
    have h1 := TD.len
    have h2 := congrArg List.length eD
    
    simp only [List.length_map, List.length_nil] at h2
    omega
  have i0 := cell_on hb8 c0
  have i1 := cell_on hb8 c1
  have h58 := bt h57 hb8
  have TA := (unhide HTA5).on h58
  have TB := (unhide HTB5).on h58
  have hB := both_any true false ta tb tn tc un uc ts us w8 TA.row TB.row TA.len TB.len (by omega) (by omega) TA.light TB.light TA.nil TB.nil (by rw [TA.eq]; exact unhide H1) (by rw [TB.eq]; exact unhide H2)
  have dn0 : dn = 0 := by
    have h1 := TD.len
    have h2 := congrArg List.length eD
    simp only [List.length_map, List.length_nil] at h2
    omega
  subst dn0
  clear hD TD eD TA TB c0 c1
  go_wp2_with fail
  refine hB.mono ?_
  rintro e w9 ⟨ba, bn, bc, bs, rfl, TZ, hb9⟩
  rw [show chk (true && false) = 1 from rfl]
  have eZ : bs.map Fb.l = [] := by rw [TZ.eq]; rfl
  have EZ := hide eZ
  have HTZ := hide TZ
  have lZ : bn ≤ 120 := by
    have h1 := TZ.len
    have h2 := congrArg List.length eZ
    
    simp only [List.length_map, List.length_nil] at h2
    omega
  have bn0 : bn = 0 := by
    have h1 := TZ.len
    have h2 := congrArg List.length eZ
    simp only [List.length_map, List.length_nil] at h2
    omega
  subst bn0
  have c0 := cell_on hb9 i0
  have c1 := cell_on hb9 i1
  have h59 := bt h58 hb9
  have TA := (unhide HTA5).on h59
  have hw9 := bt hw5 h59
  obtain ⟨q, hq⟩ : ∃ q, decide (f.l ∈ xs.map Fb.l) = q := ⟨_, rfl⟩
  have F1 := cls (wr := w9) (fun W hb => has_any ta tn tc ts f q W (TA.on hb).row (hf.on (bt hw9 hb)) (by rw [TA.len]; omega) (by rw [← TA.len]; omega) (by omega) TA.len1k (hide (by rw [TA.eq]; exact hq)))
  have F2 := cls (wr := w9) (fun W hb => refHas_any al ll cl xs f q W (hx.on (bt hw9 hb)) (hf.on (bt hw9 hb)) hx1 hx2 (by omega) (fun g hg => by have := (hLx g hg).len; omega) (hide hq))
  have m0 := cell_regrown c0
  have m1 := cell_regrown c1
  have hqq : (q != q) = false := by simp
  clear hB TZ eZ TA i0 i1 hq
  go_wp2_with fail
  refine wp_region_quiet_below (by kernel_rfl) (by kernel_rfl) ?_
  repeat (go_big_quiet_step (first | with_reducible exact F1 _ _ | with_reducible exact F2 _ _))
  refine wpQuiet_nil ?_
  intro _ hw'
  obtain ⟨⟨dq, osq⟩, hw''⟩ := hw'
  subst hw''
  have hb10 := below_regrown w9 dq osq
  have i0 := cell_on hb10 c0
  have i1 := cell_on hb10 c1
  clear F1 F2 m0 m1 c0 c1
  generalize Sort.grow (redrawn w9 dq) osq = w10 at hb10 i0 i1 ⊢
  have h910 := hb10
  clear hb10
  go_wp2_with fail
  go_loopw [17, 18] (fun v i wr => ∃ (k : Nat) (bb : Bool), k ≤ ll ∧ i = .int .i64 k ∧ v = .bool bb ∧ Hid (((xs.take k).map Fb.l).all rightF = bb) ∧ Below w10.heap.size w10 wr) (fun _ i _ => ll - (intOf i).toNat)
  case atStart => exact ⟨0, true, Nat.zero_le _, rfl, rfl, hide rfl, Below.refl _ _⟩
  case round =>
    obtain ⟨k, bb, hk, rfl, rfl, HB, hbw⟩ := hrel
    by_cases hlt : k < ll
    · have hrow := hx.on (bt hw9 (bt h910 hbw))
      obtain ⟨b, o, ha, hbl, d0, d1, hin⟩ := hrow.up (show k < xs.length by omega)
      subst ha
      have lx := hLx xs[k] (List.getElem_mem (by omega))
      have HE : Hid (∀ z, rightF xs[k].l = z → ((xs.take (k + 1)).map Fb.l).all rightF = (bb && z)) := by
        refine hide (fun z hz => ?_)
        rw [take_l xs k (by omega), List.all_append, unhide HB]
        simp [hz]
      obtain ⟨z, hz⟩ : ∃ z, rightF xs[k].l = z := ⟨_, rfl⟩
      have HN := hide (unhide HE z hz)
      have HZ := hide hz
      clear HE hz hrow
      generalize xs[k] = x at d0 d1 hin lx HZ
      cases bb with
      | true =>
        rw [Bool.true_and] at HN
        have hr := refFact_q x z wr hin lx HZ
        go_wp2_with fail
        refine hr.mono ?_
        rintro e wq ⟨rfl, hbq⟩
        have hbw' := bt hbw hbq
        clear hr d0 d1 hin
        go_wp2_with fail
        go_roundw
        case rel => exact ⟨k + 1, z, by omega, by go_num, rfl, HN, hbw'⟩
        case measure => simp [intOf]; omega
      | false =>
        rw [Bool.false_and] at HN
        clear d0 d1 hin
        go_wp2_with fail
        go_roundw
        case rel => exact ⟨k + 1, false, by omega, by go_num, rfl, HN, hbw⟩
        case measure => simp [intOf]; omega
    · have hbb : bb = true := by
        have h := unhide HB
        rw [List.take_of_length_le (by omega)] at h
        rw [← h]; exact unhide Hp
      subst hbb
      have j0 := cell_on hbw i0
      have j1 := cell_on hbw i1
      have h9r := bt h910 hbw
      have hwr := bt hw9 h9r
      clear HB hbw h910 i0 i1
      go_wp2_with fail
      refine (refOf_any al ll cl xs wr (hx.on hwr) hx1 hx2 (by omega) hLx).mono ?_
      rintro e w19 ⟨va, vn, vc, vs, rfl, TV, hbc⟩
      have h9r' := bt h9r hbc
      have hwr' := bt hwr hbc
      have j0' := cell_on hbc j0
      have j1' := cell_on hbc j1
      clear h9r hwr j0 j1 hbc
      have h9r := h9r'
      have hwr := hwr'
      have j0 := j0'
      have j1 := j1'
      clear h9r' hwr' j0' j1'
      have hK := keepFacts_t oa va on oc vn vc os vs w19 ((unhide HTO).on (bt (bt (bt hb7 hb8) hb9) h9r)).row TV.row (unhide HTO).len TV.len (by omega) (unhide HTO).len1k (by rw [unhide EO, TV.eq])
      clear TV
      go_wp2_with fail
      refine (hK).mono ?_
      rintro e w21 ⟨rfl, hbc⟩
      have h9r' := bt h9r hbc
      have hwr' := bt hwr hbc
      have j0' := cell_on hbc j0
      have j1' := cell_on hbc j1
      clear h9r hwr j0 j1 hbc
      have h9r := h9r'
      have hwr := hwr'
      have j0 := j0'
      have j1 := j1'
      clear h9r' hwr' j0' j1'
      clear hK
      go_wp2_with fail
      refine (refSet_any al ll cl xs true w21 (hx.on hwr) hx1 hx2 (by omega) hLx H1).mono ?_
      rintro e w22 ⟨rfl, hbc⟩
      have h9r' := bt h9r hbc
      have hwr' := bt hwr hbc
      have j0' := cell_on hbc j0
      have j1' := cell_on hbc j1
      clear h9r hwr j0 j1 hbc
      have h9r := h9r'
      have hwr := hwr'
      have j0 := j0'
      have j1 := j1'
      clear h9r' hwr' j0' j1'
      go_wp2_with fail
      refine (refFact_q f false w22 (hf.on hwr) lf HF).mono ?_
      rintro e w23 ⟨rfl, hbc⟩
      have h9r' := bt h9r hbc
      have hwr' := bt hwr hbc
      have j0' := cell_on hbc j0
      have j1' := cell_on hbc j1
      clear h9r hwr j0 j1 hbc
      have h9r := h9r'
      have hwr := hwr'
      have j0 := j0'
      have j1 := j1'
      clear h9r' hwr' j0' j1'
      go_wp2_with fail
      refine (refSet_any am lm cm ys false w23 (hy.on hwr) hy1 hy2 (by omega) hLy H2).mono ?_
      rintro e w24 ⟨rfl, hbc⟩
      have h9r' := bt h9r hbc
      have hwr' := bt hwr hbc
      have j0' := cell_on hbc j0
      have j1' := cell_on hbc j1
      clear h9r hwr j0 j1 hbc
      have h9r := h9r'
      have hwr := hwr'
      have j0 := j0'
      have j1 := j1'
      clear h9r' hwr' j0' j1'
      go_wp2_with fail
      refine (scheck_x ta tn tc ts 0 w24 ((unhide HTA5).on (bt h59 h9r)).row (by rw [(unhide HTA5).len]; omega) (by rw [← (unhide HTA5).len]; omega) (by omega) (unhide HTA5).light (hide (by rw [(unhide HTA5).eq, unhide H1]; rfl))).mono ?_
      rintro e w25 ⟨rfl, hbc⟩
      have h9r' := bt h9r hbc
      have hwr' := bt hwr hbc
      have j0' := cell_on hbc j0
      have j1' := cell_on hbc j1
      clear h9r hwr j0 j1 hbc
      have h9r := h9r'
      have hwr := hwr'
      have j0 := j0'
      have j1 := j1'
      clear h9r' hwr' j0' j1'
      have hS1 := spoil2_told w6 w25 (unhide HTO) (Nat.le_refl _) ((unhide HTO).on (bt (bt (bt hb7 hb8) hb9) h9r)) (by omega)
      go_wp2_with fail
      refine hS1.mono ?_
      rintro e w41 ⟨rfl, s1⟩
      have P1 := ((unhide HTP).on (bt (bt hb8 hb9) h9r)).sw s1 (Nat.le_refl _)
      have D1 := ((unhide HTD).on (bt hb9 h9r)).sw s1 hb7.size
      have Z1 := ((unhide HTZ).on h9r).sw s1 (Nat.le_trans hb7.size hb8.size)
      have hS2 := spoil2_told w7 w41 (unhide HTP) (Nat.le_refl _) P1 (by omega)
      clear hS1
      go_wp2_with fail
      refine hS2.mono ?_
      rintro e w42 ⟨rfl, s2⟩
      have D2 := D1.sw s2 (Nat.le_refl _)
      have Z2 := Z1.sw s2 hb8.size
      have hS3 := spoil2_told w8 w42 (unhide HTD) (Nat.le_refl _) D2 (by omega)
      clear hS2 P1 D1 Z1
      go_wp2_with fail
      refine hS3.mono ?_
      rintro e w43 ⟨rfl, s3⟩
      have Z3 := Z2.sw s3 (Nat.le_refl _)
      have hS4 := spoil2_told w9 w43 (unhide HTZ) (Nat.le_refl _) Z3 (by omega)
      clear hS3 D2 Z2
      go_wp2_with fail
      refine hS4.mono ?_
      rintro e w44 ⟨rfl, s4⟩
      have k1 : Below w5.heap.size w5 w41 := (bt h59 h9r).trans s1.b
      have k2 := k1.trans (s2.b.mono h56.size)
      have k3 := k2.trans (s3.b.mono h57.size)
      have k4 := k3.trans (s4.b.mono h58.size)
      have hfin := bt hw5 k4
      have TA := (unhide HTA5).on k4
      have TB := (unhide HTB5).on k4
      have hK := keepFacts_t ta al tn tc ll cl ts xs w44 TA.row (hx.on hfin) TA.len (unhide HLX) (by omega) TA.len1k TA.eq
      have hK2 := fun W hb => keepFacts_t tb am un uc lm cm us ys W (TB.on hb).row (hy.on (bt hfin hb)) TB.len (unhide HLY) (by omega) TB.len1k TB.eq
      clear hS4 Z3 k1 k2 k3 k4 s1 s2 s3 s4 TA TB j0 j1 h9r
      go_wp2_with fail
      refine hK.mono ?_
      rintro e w45 ⟨rfl, hb45⟩
      have hK2' := hK2 w45 hb45
      clear hK hK2
      go_wp2_with fail
      refine hK2'.mono ?_
      rintro e w46 ⟨rfl, hb46⟩
      clear hK2'
      go_wp2_with fail
      refine (wakes_any w46).mono ?_
      rintro e w47 ⟨rfl, hb47⟩
      have hend := bt (bt (bt hfin hb45) hb46) hb47
      go_wp2_with fail
      go_ret
      exact ⟨rfl, hend⟩
end Go.Proofs.Ytmnonjacomabbaa
