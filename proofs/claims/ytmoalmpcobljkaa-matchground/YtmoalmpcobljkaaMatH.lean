/- The walk of constablelaw06.MatchGround: it answers true, whatever the atom and the facts. -/
import Derived.Test.YtmoalmpcobljkaaMatG
namespace Go.Proofs.Ytmoalmpcobljkaa.Sb
open Go.RowKit
open V

set_option maxHeartbeats 8000000 in
set_option maxRecDepth 100000 in
theorem ground_law (n : ByteArray) (a : Option Addr) (len cap : Nat) (ts : List Bb) (f g : Fb) (w : World) (hA : Lies w a len cap ts) (hf : f.In w) (hg : g.In w) :
    Calls Try.prog 3 #[.agg #[.string n, .slice a len cap], .agg #[.string f.n, .slice f.a f.len f.cap], .agg #[.string g.n, .slice g.a g.len g.cap]] w fun e w' => e = .returned (.bool true) ∧ Below w.heap.size w w' := by
  obtain ⟨hb0, -, -, -⟩ := three_of w (bxA n a len cap) (bxF f) (bxF g)
  have T := b3_of w n a len cap ts f g hA hf hg
  clear hA hf hg
  have hm1 := aheavy_any n a len cap ts _ T.t
  go_enter Try.func3, Try.ntmps3
  go_wp2_with fail
  refine hm1.mono ?_
  rintro e w1 ⟨rfl | ⟨rfl, hn, h20, hT⟩, hb1⟩
  · have hw1 := bt hb0 hb1
    clear hm1 T
    go_wp2_with fail
    go_ret
    exact ⟨rfl, hw1⟩
  have hw1 := bt hb0 hb1
  have T1 := T.on hb1
  have HT := hide hT
  clear hm1 T hb0 hb1 hT
  obtain ⟨a0, a1, b0, b1, c0, c1⟩ := T1.cs
  go_wp2_with fail
  refine (heavy_fb f w1 T1.f).mono ?_
  rintro e w2 ⟨rfl | ⟨rfl, hF⟩, hb2⟩
  · have hw2 := bt hw1 hb2
    clear T1 a0 a1 b0 b1 c0 c1
    go_wp2_with fail
    go_ret
    exact ⟨rfl, hw2⟩
  have hw2 := bt hw1 hb2
  have T2 := T1.on hb2
  clear T1 hb2 a0 a1 b0 b1 c0 c1
  obtain ⟨a0, a1, b0, b1, c0, c1⟩ := T2.cs
  go_wp2_with fail
  refine (heavy_fb g w2 T2.g).mono ?_
  rintro e w3 ⟨rfl | ⟨rfl, hG⟩, hb3⟩
  · have hw3 := bt hw2 hb3
    clear T2 a0 a1 b0 b1 c0 c1
    go_wp2_with fail
    go_ret
    exact ⟨rfl, hw3⟩
  have hw3 := bt hw2 hb3
  have T3 := T2.on hb3
  clear T2 hb3 a0 a1 b0 b1 c0 c1 hw1 hw2
  obtain ⟨a0, a1, b0, b1, c0, c1⟩ := T3.cs
  go_wp2_with fail
  obtain ⟨⟨us, ok⟩, hu⟩ : ∃ r, oneR n ts f [] = r := ⟨_, rfl⟩
  refine (one_any n a len cap ts f none 0 0 [] us ok w3 hn (unhide HT) T3.t h20 T3.f hF (lies_none _) (by omega) (by intro x hx; cases hx) (hide hu)).mono ?_
  rintro e w4 ⟨q4, m4, d4, rfl, hl4, hb4⟩
  have hw4 := bt hw3 hb4
  have T4 := T3.on hb4
  clear T3 hb4 a0 a1 b0 b1 c0 c1 hw3
  cases ok with
  | false =>
    obtain rfl : m4 = 0 := by have := hl4.len; rw [one_no hu] at this; exact this
    clear T4 hl4 hu
    go_wp2_with fail
    refine (wakes_any w4).mono ?_
    rintro e w5 ⟨rfl, hb5⟩
    have hw5 := bt hw4 hb5
    clear hb5 hw4
    go_wp2_with fail
    go_ret
    exact ⟨rfl, hw5⟩
  | true =>
    obtain ⟨hls, hgr, hag, hcn, hgt, hon⟩ := ground_facts hu
    have HNF := hide (one_ok hu).2.2.1
    have HC := hide (show m4 = (varsL ts).length by rw [hl4.len]; exact hcn)
    have HGT := hide hgt
    have HLS := hide hls
    have hm4 : m4 ≤ 100 := by have := hl4.len; have := list_len hls; omega
    have HON := hide (hon g)
    have HAG := hide hag
    have HGR := hide hgr
    clear hls hgr hag hcn hgt hon hu
    obtain ⟨a0, a1, b0, b1, c0, c1⟩ := T4.cs
    go_wp2_with fail
    refine (ground_any n a len cap ts q4 m4 d4 us n (f.vs.map vv) 0 w4 hn (unhide HT) T4.t h20 hl4 (by omega) (lt_list (unhide HLS)) HGR).mono ?_
    rintro e w5 ⟨q5, m5, d5, rfl, hr5, hm5, hb5⟩
    have HM5 := hide hm5
    have hbx : Below w5.heap.size w5 (w5.alloc (.cells #[.string n, .slice q5 m5 d5] 27)) := (Below.refl _ _).alloc (Nat.le_refl _) _
    have T5' := T4.on hb5
    have T5 := T4.on (bt hb5 hbx)
    have k5 := heap_alloc_new w5 (.cells #[.string n, .slice q5 m5 d5] 27)
    have hw5 := bt (bt hw4 hb5) hbx
    replace hl4 := hl4.on (bt hb5 hbx)
    replace hr5 := hr5.on hbx
    clear T4 hb5 hbx hw4 a0 a1 b0 b1 c0 c1 HGR hm5
    obtain ⟨a0, a1, b0, b1, c0, c1⟩ := T5'.cs
    have hlt0 := cell_lt a0
    have hlt1 := cell_lt b0
    go_wp2_with fail
    clear T5' a0 a1 b0 b1 c0 c1 hlt0 hlt1
    generalize w5.alloc (.cells #[.string n, .slice q5 m5 d5] 27) = W5 at T5 k5 hw5 hl4 hr5
    refine (one_any n a len cap ts f q4 m4 d4 us us true W5 hn (unhide HT) T5.t h20 T5.f hF hl4 (by omega) (lt_list (unhide HLS)) HAG).mono ?_
    rintro e w6 ⟨q6, m6, d6, rfl, hl6, hb6⟩
    have hw6 := bt hw5 hb6
    have T6 := T5.on hb6
    replace k5 := (hb6.block _ (heap_lt k5)).trans k5
    replace hl4 := hl4.on hb6
    replace hr5 := hr5.on hb6
    clear T5 hb6 hw5 HAG
    obtain ⟨a0, a1, b0, b1, c0, c1⟩ := T6.cs
    go_wp2_with fail
    obtain ⟨k7, hk7⟩ := unhide HON
    refine (one_any n a len cap ts g q4 m4 d4 us k7 _ w6 hn (unhide HT) T6.t h20 T6.g hG hl4 (by omega) (lt_list (unhide HLS)) (hide hk7)).mono ?_
    rintro e w7 ⟨q7, m7, d7, rfl, hl7, hb7⟩
    have hw7 := bt hw6 hb7
    have T7 := T6.on hb7
    replace k5 := (hb7.block _ (heap_lt k5)).trans k5
    replace hl4 := hl4.on hb7
    replace hl6 := hl6.on hb7
    replace hr5 := hr5.on hb7
    clear T6 hb7 hw6 hl7 hk7 HON a0 a1 b0 b1 c0 c1
    obtain ⟨qq, hqq⟩ : ∃ b, decide (f.l = g.l) = b := ⟨_, rfl⟩
    rw [hqq]
    have HQ := hide hqq
    clear hqq
    obtain ⟨a0, a1, b0, b1, c0, c1⟩ := T7.cs
    go_wp2_with fail
    refine (vars_k n a len cap ts m4 w7 (unhide HT) T7.t h20 (hide (unhide HC).symm)).mono ?_
    rintro e w8 ⟨q8, d8, rfl, hr8, hb8, -⟩
    have hw8 := bt hw7 hb8
    have T8 := T7.on hb8
    replace k5 := (hb8.block _ (heap_lt k5)).trans k5
    replace hl4 := hl4.on hb8
    replace hl6 := hl6.on hb8
    replace hr5 := hr5.on hb8
    clear T7 hb8 hw7 a0 a1 b0 b1 c0 c1
    go_wp2_with fail
    go_loopw [16, 17, 18] (fun i _ _ wr => ∃ k : Nat, k ≤ m4 ∧ i = .int .i64 k ∧ Below w8.heap.size w8 wr) (fun i _ _ _ => m4 - (intOf i).toNat)
    case atStart => exact ⟨0, Nat.zero_le _, rfl, Below.refl _ _⟩
    case round =>
      obtain ⟨k, hk, rfl, hbw⟩ := hrel
      have hl4r := hl4.on hbw
      by_cases hlt : k < m4
      · have hkv : k < (varsL ts).length := by rw [← unhide HC]; exact hlt
        obtain ⟨b, o, hq, hbl, e0⟩ := (hr8.on hbw).up hkv
        subst hq
        obtain ⟨v, hv⟩ := unhide HGT _ (List.getElem_mem hkv)
        generalize (varsL ts)[k] = s at e0 hv
        go_wp2_with fail
        refine (get_any q4 m4 d4 us s v true wr hl4r.row hl4r.le hl4r.ge (by omega) (lt_list (unhide HLS)) (hide hv)).mono ?_
        rintro e w9 ⟨rfl, hb9⟩
        have hbw9 : Below w8.heap.size w8 (w9.alloc (bxV v)) := (bt hbw hb9).alloc (bt hbw hb9).size _
        clear hv hb9 e0 hl4r
        go_wp2_with fail
        go_roundw
        case rel => exact ⟨k + 1, by omega, by go_num, hbw9⟩
        case measure => simp [intOf]; omega
      · obtain rfl : k = m4 := by omega
        have hw9 := bt hw8 hbw
        have T9 := T8.on hbw
        have k9 := (hbw.block _ (heap_lt k5)).trans k5
        have hl6r := hl6.on hbw
        have hr9 := hr5.on hbw
        have hh : (Fb.mk n q5 m5 d5 ((f.vs.map vv).map vb)).In wr := ⟨hr9, by rw [List.length_map]; exact unhide HM5⟩
        have HE : Hid (decide ((Fb.mk n q5 m5 d5 ((f.vs.map vv).map vb)).l = f.l) = true) := hide (decide_eq_true (fl_iff.2 ⟨unhide HNF, vv_vbs _⟩))
        have hm5 : m5 ≤ 1000 := by have := unhide HM5; rw [List.length_map, ← T9.f.len] at this; have := hF.len; omega
        obtain ⟨a0, a1, b0, b1, c0, c1⟩ := T9.cs
        obtain ⟨z0, z1⟩ := pair_of k9
        clear T8 hbw k5 hl4 hl6 hr5 hr9
        go_wp2_with fail
        refine (keepFact_x (Fb.mk n q5 m5 d5 ((f.vs.map vv).map vb)) f true wr hh T9.f hm5 HE).mono ?_
        rintro e w10 ⟨rfl, hb10⟩
        have hw10 := bt hw9 hb10
        have T10 := T9.on hb10
        replace hl6r := hl6r.on hb10
        replace hl4r := hl4r.on hb10
        clear T9 hb10 hw9 a0 a1 b0 b1 c0 c1 z0 z1 k9 hh HE
        obtain ⟨a0, a1, b0, b1, c0, c1⟩ := T10.cs
        go_wp2_with fail
        refine (keep_t q6 q4 m6 d6 k d4 us us w10 hl6r hl4r (by have := hl6r.len; have := hl4r.len; omega) rfl).mono ?_
        rintro e w11 ⟨rfl, hb11⟩
        have hw11 := bt hw10 hb11
        have T11 := T10.on hb11
        clear T10 hb11 hw10 a0 a1 b0 b1 c0 c1 hl6r hl4r
        obtain ⟨a0, a1, b0, b1, c0, c1⟩ := T11.cs
        go_wp2_with fail
        refine (keepFact_x f g qq w11 T11.f T11.g (by have := hF.len; omega) HQ).mono ?_
        rintro e w12 ⟨rfl, hb12⟩
        have hw12 := bt hw11 hb12
        clear T11 hb12 hw11 a0 a1 b0 b1 c0 c1
        go_wp2_with fail
        refine (wakes_any w12).mono ?_
        rintro e w13 ⟨rfl, hb13⟩
        have hw13 := bt hw12 hb13
        clear hb13 hw12
        go_wp2_with fail
        go_ret
        exact ⟨rfl, hw13⟩
end Go.Proofs.Ytmoalmpcobljkaa.Sb
