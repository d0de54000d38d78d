/- The walk of constablelaw07.ExprSums: it answers true, whatever the numbers. -/
import Derived.Test.YtnomndpoklolfaaExpW
import Derived.Test.YtnomndpoklolfaaExpJ
import Derived.Test.YtnomndpoklolfaaExqA
import Derived.Test.YtnomndpoklolfaaExqB
import Derived.Test.YtnomndpoklolfaaExqC
namespace Go.Proofs.Ytnomndpoklolfaa.Sb
open Go.RowKit
open V
open Ex (RowO LiesO flatO flatO_len flatO_app flatO_oneCell liesO_own liesO_none)
open N (doL inB)

theorem sums_out (a : Option Addr) (len cap : Nat) (w : World) (h : len = 0 ∨ 8 < len) :
    Calls Try.prog 7 #[.slice a len cap] w fun e w' => e = .returned (.bool true) ∧ Below w.heap.size w w' := by
  by_cases h0 : len = 0
  · subst h0
    clear h
    go_enter Try.func7, Try.ntmps7
    go_wp2_with fail
    go_ret
    exact ⟨rfl, Below.refl _ _⟩
  · have d1 : decide ((8 : Int) < (len : Int)) = true := decide_eq_true (by omega)
    have d2 : ((len : Int) == 0) = false := by simp [h0]
    have d3 : (len == 0) = false := by simp [h0]
    clear h h0
    go_enter Try.func7, Try.ntmps7
    go_wp2_with fail
    go_ret
    exact ⟨rfl, Below.refl _ _⟩

theorem two_new (w : World) (x y : Oo) : ((w.alloc (bxO x)).alloc (bxO y)).heap[w.heap.size]? = some (bxO x) ∧ ((w.alloc (bxO x)).alloc (bxO y)).heap[w.heap.size + 1]? = some (bxO y) := by
  have h := heap_alloc_new (w.alloc (bxO x)) (bxO y)
  rw [show (w.alloc (bxO x)).heap.size = w.heap.size + 1 by simp] at h
  exact ⟨heap_alloc (heap_alloc_new w (bxO x)) _, h⟩
theorem take_rem {zs : List Int} {k : Nat} (h : k < zs.length) : (zs.map remI).take (k + 1) = (zs.map remI).take k ++ [remI (zs.getD k 0)] := by
  rw [List.take_succ_eq_append_getElem (by simpa using h)]
  simp [List.getD, List.getElem?_eq_getElem h]
theorem take_len {zs : List Int} {k : Nat} (h : k ≤ 8) : ((zs.map remI).take k).length ≤ 8 := by
  rw [List.length_take]; omega
theorem quint_q {w : World} {b : Nat} {n : Int} (h : w.heap[b]? = some (bxO (pN n))) : w.cell? ⟨b, 0, none⟩ = some (.int .i64 2) ∧ w.cell? ⟨b, 1, none⟩ = some (.string ⟨#[]⟩) ∧ w.cell? ⟨b, 2, none⟩ = some (.int .i64 1) ∧ w.cell? ⟨b, 3, none⟩ = some (.int .i64 n) ∧ w.cell? ⟨b, 4, none⟩ = some (.string ⟨#[]⟩) := quintO h

theorem lt_pN (n : Int) : LtO (pN n) := ⟨Nat.zero_le _, Nat.zero_le _⟩
theorem lt_aN : LtO aN := ⟨Nat.zero_le _, Nat.zero_le _⟩
theorem lt_left (l : List Int) : ∀ x ∈ leftO l, LtO x := by
  cases l with
  | nil => intro x hx; cases hx
  | cons n r =>
    intro x hx
    rcases List.mem_cons.1 hx with rfl | hx
    · exact lt_pN n
    · rcases mem_leftC hx with rfl | ⟨m, _, rfl⟩
      · exact lt_aN
      · exact lt_pN m
theorem lt_right (l : List Int) (k : Nat) : ∀ x ∈ rightC l k, LtO x := by
  intro x hx
  rcases List.mem_append.1 hx with hx | hx
  · obtain ⟨n, _, rfl⟩ := List.mem_map.1 hx
    exact lt_pN n
  · rw [List.eq_of_mem_replicate hx]; exact lt_aN
theorem evalR_plain {l : List Oo} {r : Vv × Int} (h : exprB l = true) (H : evalL [] l = r) : evalR [] l = r := by
  unfold evalR
  rw [if_pos ⟨h, rfl⟩]; exact H
theorem sum_b (b off len cap : Nat) (zs : List Int) (v e : Int) (w : World) (hz : len ≤ zs.length) (hz2 : zs.length ≤ len) (hbig : len ≤ 9223372036854775807)
    (hc : ∀ j, j < len → w.cell? ⟨b, off + j, none⟩ = some (.int .i64 (zs.getD j 0))) (hr : Hid (N.sumL 0 zs = (v, e))) :
    Calls Try.prog 28 #[.slice (some ⟨b, off, none⟩) len cap] w fun r w' => r = .returned (.tuple #[.int .i64 v, .int .i64 e]) ∧ Below w.heap.size w w' := by
  refine (N.sum_any b off len cap zs v e w hz hz2 hbig hc hr).mono ?_
  rintro r w' ⟨rfl, rfl⟩
  exact ⟨rfl, Below.refl _ _⟩

set_option maxHeartbeats 40000000 in
set_option maxRecDepth 100000 in
theorem sums_law (b o len cap : Nat) (zs : List Int) (w : World) (h1 : 1 ≤ len) (h8 : len ≤ 8) (hz : zs.length = len) (hc : ∀ j, j < len → w.cell? ⟨b, o + j, none⟩ = some (.int .i64 (zs.getD j 0))) :
    Calls Try.prog 7 #[.slice (some ⟨b, o, none⟩) len cap] w fun e w' => e = .returned (.bool true) ∧ Below w.heap.size w w' := by
  have HZ := hide hz
  have d1 : decide ((8 : Int) < (len : Int)) = false := decide_eq_false (by omega)
  have d2 : ((len : Int) == 0) = false := beq_eq_false_iff_ne.2 (by omega)
  have d3 : (len == 0) = false := beq_eq_false_iff_ne.2 (by omega)
  have HC := hide hc
  clear hz hc
  go_enter Try.func7, Try.ntmps7
  go_wp2_with fail
  clear d1 d2 d3
  go_loopw [3, 4, 5] (fun vl vr i wr => ∃ (k : Nat), k ≤ len ∧ i = .int .i64 k ∧ OwnO wr w.heap.size vl (leftO ((zs.map remI).take k)) ∧ OwnO wr w.heap.size vr (((zs.map remI).take k).map pN) ∧ Apart vl vr ∧ Below w.heap.size w wr) (fun _ _ i _ => len - (intOf i).toNat)
  case atStart => exact ⟨0, Nat.zero_le _, rfl, ownO_nil _ _, ownO_nil _ _, apart_none _, Below.refl _ _⟩
  case round =>
    obtain ⟨k, hk, rfl, hl, hr, hap, hbw⟩ := hrel
    by_cases hlt : k < len
    · have hzk := cell_on hbw (unhide HC k hlt)
      have HT := hide (take_rem (zs := zs) (k := k) (by have := unhide HZ; omega))
      have hB : w.heap.size ≤ wr.heap.size := hbw.size
      obtain ⟨n, hn⟩ : ∃ n, remI (zs.getD k 0) = n := ⟨_, rfl⟩
      rw [hn] at HT
      obtain ⟨hp0, hq0⟩ := two_new wr (pN n) (pN n)
      obtain ⟨x0, x1, x2, x3, x4⟩ := quint_q (heap_alloc_new wr (bxO (pN n)))
      have HQ := hide hq0
      have HP := hide hp0
      have hl2 := ownO_alloc (ownO_alloc hl (bxO (pN n))) (bxO (pN n))
      have hr2 := ownO_alloc (ownO_alloc hr (bxO (pN n))) (bxO (pN n))
      have hb2 : Below w.heap.size w ((wr.alloc (bxO (pN n))).alloc (bxO (pN n))) := (hbw.alloc hB _).alloc (by simp; omega) _
      have hnl : ∀ m, u3.ownBlock = some m → m ≠ wr.heap.size := fun m hm => by have := ownO_below hl m hm; omega
      have hnr : ∀ m, u4.ownBlock = some m → m ≠ wr.heap.size := fun m hm => by have := ownO_below hr m hm; omega
      have hk8 : ((zs.map remI).take k).length ≤ 8 := take_len (by omega)
      have hll : (leftO ((zs.map remI).take k)).length ≤ 100 := by rw [left_len]; omega
      have HLL := hide hll
      have HK8 := hide hk8
      have HNL := hide hnl
      have HNR := hide hnr
      have HB2 := hide hb2
      have HL2 := hide hl2
      have HR2 := hide hr2
      have HAP := hide hap
      unfold remI at hn
      clear hq0 hp0 hk8 hll hl hr hbw hb2 hl2 hr2 hnl hnr hap
      generalize zs.getD k 0 = z at hzk hn
      go_wp2_with (at_builtin; refine app_op rfl _ _ rfl w.heap.size u3 (leftO ((zs.map remI).take k)) (pN n) (wr.heap.size + 1) rfl rfl (unhide HL2) HQ (unhide HLL) (unhide HB2).size ?_)
      intro v3 wa hl3 hg3 h53
      have hpa := heap_beside (unhide HP) hg3 (unhide HNL)
      have hra := ownO_beside (unhide HR2) hg3 (unhide HAP).flip
      have hapa := apart_to (unhide HAP) h53 (ownO_less (unhide HR2) (by simp))
      have hba := (unhide HB2).grown hg3 (unhide HB2).size (ownO_lt (unhide HL2))
      clear hzk hn x0 x1 x2 x3 x4 HP HQ HNL HB2 HL2 HR2 HAP hg3 h53 hB
      generalize wr.heap.size = p at hpa HNR
      obtain ⟨x0, x1, x2, x3, x4⟩ := quint_q hpa
      have hqa := hide (heap_alloc_new wa (bxO (pN n)))
      have hlb := ownO_alloc hl3 (bxO (pN n))
      have hrb := ownO_alloc hra (bxO (pN n))
      have hbb : Below w.heap.size w (wa.alloc (bxO (pN n))) := hba.alloc hba.size _
      have HLB := hide hlb
      have HRB := hide hrb
      have HBB := hide hbb
      have HAP := hide hapa
      clear hl3 hra hba hlb hrb hbb hapa hpa
      go_wp2_with (at_builtin; refine app_op rfl _ _ rfl w.heap.size u4 (((zs.map remI).take k).map pN) (pN n) wa.heap.size rfl rfl (unhide HRB) hqa (by have := unhide HK8; simp only [List.length_map]; omega) (unhide HBB).size ?_)
      intro v4 wb hr4 hg4 h54
      have hlc := ownO_beside (unhide HLB) hg4 (unhide HAP)
      have hapc := (apart_to (unhide HAP).flip h54 (ownO_less (unhide HLB) (by simp))).flip
      have hbc := (unhide HBB).grown hg4 (unhide HBB).size (ownO_lt (unhide HRB))
      clear x0 x1 x2 x3 x4 HNR HLB HRB HBB HAP hqa hg4 h54
      by_cases h0 : k = 0
      · subst h0
        have HR' : OwnO wb w.heap.size v4 (((zs.map remI).take (0 + 1)).map pN) := by rw [unhide HT, List.map_append]; simpa using hr4
        have HL' : OwnO wb w.heap.size v3 (leftO ((zs.map remI).take (0 + 1))) := by rw [unhide HT]; exact hlc
        clear HT hlc hr4
        go_wp2_with fail
        go_roundw
        case rel => exact ⟨0 + 1, by omega, by go_num, HL', HR', hapc, hbc⟩
        case measure => simp [intOf]; omega
      · have d1 : decide ((0 : Int) < (k : Int)) = true := decide_eq_true (by omega)
        have d2 : decide (0 < k) = true := decide_eq_true (by omega)
        have HR' : OwnO wb w.heap.size v4 (((zs.map remI).take (k + 1)).map pN) := by rw [unhide HT, List.map_append]; simpa using hr4
        have hne : (zs.map remI).take k ≠ [] := by
          intro e
          have := congrArg List.length e
          rw [List.length_take, List.length_map, unhide HZ] at this
          simp at this
          omega
        have HNE := hide (left_more hne n)
        have hqc := hide (heap_alloc_new wb (bxO aN))
        have hld := ownO_alloc hlc (bxO aN)
        have hrd := ownO_alloc HR' (bxO aN)
        have hbd : Below w.heap.size w (wb.alloc (bxO aN)) := hbc.alloc hbc.size _
        have HLD := hide hld
        have HRD := hide hrd
        have HBD := hide hbd
        have HAP := hide hapc
        clear hr4 hlc hapc hbc hld hrd hbd HR' hne h0
        go_wp2_with (at_builtin; refine app_op rfl _ _ rfl w.heap.size v3 (leftO ((zs.map remI).take k) ++ [pN n]) aN wb.heap.size rfl rfl (unhide HLD) hqc (by have := unhide HK8; rw [List.length_append, left_len]; simp only [List.length_singleton]; omega) (unhide HBD).size ?_)
        intro v5 wc hl5 hg5 h55
        have hrc := ownO_beside (unhide HRD) hg5 (unhide HAP).flip
        have hapc := apart_to (unhide HAP) h55 (ownO_less (unhide HRD) (by simp))
        have hbc := (unhide HBD).grown hg5 (unhide HBD).size (ownO_lt (unhide HLD))
        have HL' : OwnO wc w.heap.size v5 (leftO ((zs.map remI).take (k + 1))) := by rw [unhide HT, unhide HNE]; simpa using hl5
        clear HLD HRD HBD HAP hqc hg5 h55 HNE HT hl5 d1 d2
        go_wp2_with fail
        go_roundw
        case rel => exact ⟨k + 1, by omega, by go_num, HL', hrc, hapc, hbc⟩
        case measure => simp [intOf]; omega
    · obtain rfl : k = len := by omega
      obtain ⟨ms, hms⟩ : ∃ ms, zs.map remI = ms := ⟨_, rfl⟩
      have hlen : ms.length = k := by rw [← hms, List.length_map]; exact unhide HZ
      have hsm : ∀ n ∈ ms, small n := by
        rw [← hms]
        intro n hn
        obtain ⟨z, -, rfl⟩ := List.mem_map.1 hn
        exact rem_small z
      rw [hms] at hl hr
      rw [List.take_of_length_le (by omega)] at hl hr
      rw [← right_zero] at hr
      have HLEN := hide hlen
      have HSM := hide hsm
      have HMS := hide hms
      clear hlen hsm hms hk hlt
      go_wp2_with fail
      go_loopw [4, 8, 9] (fun vr va i w' => ∃ (j : Nat), j ≤ k ∧ i = .int .i64 j ∧ OwnI w' w.heap.size va (ms.take j) ∧ OwnO w' w.heap.size vr (rightC ms (j - 1)) ∧ OwnO w' w.heap.size u3 (leftO ms) ∧ Apart vr u3 ∧ Apart va u3 ∧ Apart va vr ∧ Below w.heap.size w w') (fun _ _ i _ => k - (intOf i).toNat)
      case atStart => exact ⟨0, Nat.zero_le _, rfl, ownI_nil _ _, hr, hl, hap.flip, apart_none _, apart_none _, hbw⟩
      case round =>
        clear hl hr hap hbw
        obtain ⟨j, hj, rfl, hi, hr, hl, hap1, hap2, hap3, hbw⟩ := hrel
        by_cases hlt : j < k
        · have hzk := cell_on hbw (unhide HC j hlt)
          have HT := hide (take_rem (zs := zs) (k := j) (by have := unhide HZ; omega))
          rw [unhide HMS] at HT
          have hB : w.heap.size ≤ wr.heap.size := hbw.size
          obtain ⟨n, hn⟩ : ∃ n, remI (zs.getD j 0) = n := ⟨_, rfl⟩
          rw [hn] at HT
          have hqa := hide (heap_alloc_new wr (.cells #[.int .i64 n] 3))
          have HI2 := hide (ownI_alloc hi (.cells #[.int .i64 n] 3))
          have HR2 := hide (ownO_alloc hr (.cells #[.int .i64 n] 3))
          have HL2 := hide (ownO_alloc hl (.cells #[.int .i64 n] 3))
          have HB2 : Hid (Below w.heap.size w (wr.alloc (.cells #[.int .i64 n] 3))) := hide (hbw.alloc hB _)
          have hj8 : Hid ((ms.take j).length ≤ 8) := hide (by rw [List.length_take]; omega)
          have HA1 := hide hap1
          have HA2 := hide hap2
          have HA3 := hide hap3
          unfold remI at hn
          clear hi hr hl hap1 hap2 hap3 hbw
          generalize zs.getD j 0 = z at hzk hn
          go_wp2_with (at_builtin; refine app_int rfl _ _ rfl w.heap.size u8 (ms.take j) n wr.heap.size rfl rfl (unhide HI2) hqa (by have := unhide hj8; omega) (unhide HB2).size ?_)
          intro v3 wa hi3 hg3 h53
          have HR3 := hide (ownO_beside (unhide HR2) hg3 (unhide HA3).flip)
          have HL3 := hide (ownO_beside (unhide HL2) hg3 (unhide HA2).flip)
          have HA23 := hide (apart_to (unhide HA2) h53 (ownO_less (unhide HL2) (by simp)))
          have HA33 := hide (apart_to (unhide HA3) h53 (ownO_less (unhide HR2) (by simp)))
          have hba := (unhide HB2).grown hg3 (unhide HB2).size (ownI_lt (unhide HI2))
          have HI3 : Hid (OwnI wa w.heap.size v3 (ms.take (j + 1))) := hide (by rw [unhide HT]; exact hi3)
          clear hzk hn HI2 HR2 HL2 HB2 HA2 HA3 hqa hg3 h53 hB hi3 HT hj8
          by_cases h0 : j = 0
          · subst h0
            go_wp2_with fail
            go_roundw
            case rel => exact ⟨0 + 1, by omega, by go_num, unhide HI3, unhide HR3, unhide HL3, unhide HA1, unhide HA23, unhide HA33, hba⟩
            case measure => simp [intOf]; omega
          · have d1 : decide ((0 : Int) < (j : Int)) = true := decide_eq_true (by omega)
            have d2 : decide (0 < j) = true := decide_eq_true (by omega)
            have HRM : Hid (rightC ms (j + 1 - 1) = rightC ms (j - 1) ++ [aN]) := hide (by
              rw [← right_more, show j - 1 + 1 = j + 1 - 1 by omega])
            have hqc := hide (heap_alloc_new wa (bxO aN))
            have HI4 := hide (ownI_alloc (unhide HI3) (bxO aN))
            have HR4 := hide (ownO_alloc (unhide HR3) (bxO aN))
            have HL4 := hide (ownO_alloc (unhide HL3) (bxO aN))
            have HB4 : Hid (Below w.heap.size w (wa.alloc (bxO aN))) := hide (hba.alloc hba.size _)
            have hr16 : Hid ((rightC ms (j - 1)).length ≤ 100) := hide (by rw [rightC_len, unhide HLEN]; omega)
            clear HI3 HR3 HL3 hba h0
            go_wp2_with (at_builtin; refine app_op rfl _ _ rfl w.heap.size u4 (rightC ms (j - 1)) aN wa.heap.size rfl rfl (unhide HR4) hqc (unhide hr16) (unhide HB4).size ?_)
            intro v4 wb hr4 hg4 h54
            have HI5 := hide (ownI_beside (unhide HI4) hg4 (unhide HA33))
            have HL5 := hide (ownO_beside (unhide HL4) hg4 (unhide HA1).flip)
            have HA15 := hide (apart_to (unhide HA1) h54 (ownO_less (unhide HL4) (by simp)))
            have HA35 := hide (apart_to (unhide HA33).flip h54 (ownI_less (unhide HI4) (by simp))).flip
            have hbb := (unhide HB4).grown hg4 (unhide HB4).size (ownO_lt (unhide HR4))
            have HR5 : Hid (OwnO wb w.heap.size v4 (rightC ms (j + 1 - 1))) := hide (by rw [unhide HRM]; exact hr4)
            clear HI4 HR4 HL4 HB4 HA1 HA33 hqc hg4 h54 hr4 HRM hr16 d1 d2
            go_wp2_with fail
            go_roundw
            case rel => exact ⟨j + 1, by omega, by go_num, unhide HI5, unhide HR5, unhide HL5, unhide HA15, unhide HA23, unhide HA35, hbb⟩
            case measure => simp [intOf]; omega
        · obtain rfl : j = k := by omega
          have hne : ms ≠ [] := by
            intro e
            have := unhide HLEN
            rw [e] at this
            simp at this
            omega
          rw [List.take_of_length_le (by have := unhide HLEN; omega)] at hi
          obtain ⟨qa, na, ca, rfl, hL⟩ := own_ops hl
          obtain ⟨qb, nb, cb, rfl, hR⟩ := own_ops hr
          obtain ⟨gi, ci, rfl, hI⟩ := own_ints hi hne
          rw [unhide HLEN] at hI
          rw [unhide HLEN]
          have HXL : Hid (exprB (leftO ms) = true) := hide (left_right hne (by have := unhide HLEN; omega) (unhide HSM))
          have HXR : Hid (exprB (rightC ms (j - 1)) = true) := hide (by
            have := right_right hne (by have := unhide HLEN; omega) (unhide HSM)
            rwa [unhide HLEN] at this)
          have HNA : Hid (na ≤ 1000) := hide (by rw [hL.len, left_len]; have := unhide HLEN; omega)
          have HNB : Hid (nb ≤ 1000) := hide (by rw [hR.len, rightC_len]; have := unhide HLEN; omega)
          obtain ⟨⟨v, e1⟩, hv⟩ : ∃ r, evalL [] (leftO ms) = r := ⟨_, rfl⟩
          obtain ⟨⟨s, f⟩, hs⟩ : ∃ r, N.sumL 0 ms = r := ⟨_, rfl⟩
          obtain ⟨⟨u, g⟩, hu⟩ : ∃ r, evalL [] (rightC ms (j - 1)) = r := ⟨_, rfl⟩
          have hu' : evalL [] (rightC ms (ms.length - 1)) = (u, g) := by rw [unhide HLEN]; exact hu
          have HF := hide (sums_facts hne (unhide HSM) hv hs hu')
          have HV := hide hv
          have HS := hide hs
          have HU := hide hu
          have HI := hide hI
          clear hv hs hu hu' hI hi hr hl hap1 hap2 hap3 hj hlt hne
          go_wp2_with fail
          refine (eval_any qa na ca (leftO ms) none 0 0 [] v e1 wr hL (lt_left ms) (unhide HNA) (lies_none _) (by intro x hx; cases hx) (hide (evalR_plain (unhide HXL) (unhide HV)))).mono ?_
          rintro e wa ⟨rfl, hba⟩
          have hbx : Below wa.heap.size wa (wa.alloc (bxV v)) := (Below.refl _ _).alloc (Nat.le_refl _) _
          have hwa := bt (bt hbw hba) hbx
          have hRa := (hR.on hba).on hbx
          have HIa : Hid (∀ t, t < j → (wa.alloc (bxV v)).cell? ⟨gi, 0 + t, none⟩ = some (.int .i64 (ms.getD t 0))) := hide (fun t ht => cell_on hbx (cell_on hba (unhide HI t ht)))
          obtain ⟨x0, x1, x2⟩ := trip_of (heap_alloc_new wa (bxV v))
          clear hL hR hba hbx hbw HI
          go_wp2_with fail
          generalize wa.alloc (bxV v) = W1 at hwa hRa HIa x0 x1 x2
          generalize wa.heap.size = b1 at x0 x1 x2
          refine (sum_b gi 0 j ci ms s f W1 (Nat.le_of_eq (unhide HLEN).symm) (Nat.le_of_eq (unhide HLEN)) (by omega) (unhide HIa) HS).mono ?_
          rintro e wb ⟨rfl, hbb⟩
          have hwb := bt hwa hbb
          have hRb := hRa.on hbb
          replace x0 := cell_on hbb x0
          replace x1 := cell_on hbb x1
          replace x2 := cell_on hbb x2
          clear hRa hbb hwa HIa
          go_wp2_with fail
          refine (eval_any qb nb cb (rightC ms (j - 1)) none 0 0 [] u g wb hRb (lt_right ms (j - 1)) (unhide HNB) (lies_none _) (by intro x hx; cases hx) (hide (evalR_plain (unhide HXR) (unhide HU)))).mono ?_
          rintro e wc ⟨rfl, hbc⟩
          have hbx : Below wc.heap.size wc (wc.alloc (bxV u)) := (Below.refl _ _).alloc (Nat.le_refl _) _
          have hwd := bt (bt hwb hbc) hbx
          replace x0 := cell_on hbx (cell_on hbc x0)
          replace x1 := cell_on hbx (cell_on hbc x1)
          replace x2 := cell_on hbx (cell_on hbc x2)
          obtain ⟨y0, y1, y2⟩ := trip_of (heap_alloc_new wc (bxV u))
          clear hRb hbc hbx hwb HS HU HV
          obtain ⟨f1, f2, f3⟩ := unhide HF
          subst f1
          have g1 : (e1 != e1) = false := by simp
          by_cases h0 : e1 = 0
          · have hv := f2 h0
            subst hv
            subst h0
            have g2 : (s != s) = false := by simp
            by_cases h4 : g = 4
            · subst h4
              clear f2 f3
              go_wp2_with fail
              refine (wakes_any _).mono ?_
              rintro e wz ⟨rfl, hbz⟩
              have hwz := bt hwd hbz
              clear hbz hwd x0 x1 x2 y0 y1 y2
              go_wp2_with fail
              go_ret
              exact ⟨rfl, hwz⟩
            · obtain ⟨rfl, rfl⟩ : g = 0 ∧ u = (1, s, ⟨#[]⟩) := by
                rcases f3 with h | h | h
                · exact absurd h h4
                · exact absurd h (by decide)
                · exact h
              have hE := eqV0 (1, s, ⟨#[]⟩) (1, s, ⟨#[]⟩)
              rw [decide_eq_true rfl] at hE
              clear f2 f3 h4
              go_wp2_with fail
              refine (wakes_any _).mono ?_
              rintro e wz ⟨rfl, hbz⟩
              have hwz := bt hwd hbz
              clear hbz hwd x0 x1 x2 y0 y1 y2
              go_wp2_with fail
              go_ret
              exact ⟨rfl, hwz⟩
          · have g2 : (e1 == 0) = false := beq_eq_false_iff_ne.2 h0
            by_cases h4 : g = 4
            · subst h4
              clear f2 f3 h0
              go_wp2_with fail
              refine (wakes_any _).mono ?_
              rintro e wz ⟨rfl, hbz⟩
              have hwz := bt hwd hbz
              clear hbz hwd x0 x1 x2 y0 y1 y2
              go_wp2_with fail
              go_ret
              exact ⟨rfl, hwz⟩
            · have g3 : (g == 4) = false := beq_eq_false_iff_ne.2 h4
              by_cases h5 : e1 = 4
              · subst h5
                clear f2 f3 h0 h4
                go_wp2_with fail
                refine (wakes_any _).mono ?_
                rintro e wz ⟨rfl, hbz⟩
                have hwz := bt hwd hbz
                clear hbz hwd x0 x1 x2 y0 y1 y2
                go_wp2_with fail
                go_ret
                exact ⟨rfl, hwz⟩
              · obtain ⟨rfl, rfl⟩ : g = 0 ∧ u = v := by
                  rcases f3 with h | h | h
                  · exact absurd h h4
                  · exact absurd h h5
                  · exact h
                have hE := eqV0 u u
                rw [decide_eq_true rfl] at hE
                have g4 : (e1 == 4) = false := beq_eq_false_iff_ne.2 h5
                clear f2 f3 h0 h4 h5
                go_wp2_with fail
                refine (wakes_any _).mono ?_
                rintro e wz ⟨rfl, hbz⟩
                have hwz := bt hwd hbz
                clear hbz hwd x0 x1 x2 y0 y1 y2
                go_wp2_with fail
                go_ret
                exact ⟨rfl, hwz⟩
theorem sums_any (a : Option Addr) (len cap : Nat) (zs : List Int) (w : World) (hR : RowN w a len zs) :
    Calls Try.prog 7 #[.slice a len cap] w fun e w' => e = .returned (.bool true) ∧ Below w.heap.size w w' := by
  by_cases h : len = 0 ∨ 8 < len
  · exact sums_out _ len cap w h
  · rcases hR with h0 | ⟨b, o, rfl, hl, hc⟩
    · omega
    · refine sums_law b o len cap (zs.take len) w (by omega) (by omega) (by rw [List.length_take]; omega) (fun j hj => ?_)
      rw [hc j (by omega)]
      simp [hj]
end Go.Proofs.Ytnomndpoklolfaa.Sb
