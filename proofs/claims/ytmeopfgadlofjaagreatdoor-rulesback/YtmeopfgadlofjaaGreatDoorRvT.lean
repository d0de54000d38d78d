/- The walk of constablelaw11.RulesBack: it answers true, whatever the rules and signs. -/
import Derived.Test.YtmeopfgadlofjaaGreatDoorRvZd
import Derived.Test.YtmeopfgadlofjaaGreatDoorLexZd
namespace Go.Proofs.YtmeopfgadlofjaaGreatDoor.Sb
open Go.RowKit
open V
open Ex (RowO LiesO flatO liesO_own)

theorem empty_ne {s : ByteArray} (h : s ≠ ⟨#[]⟩) : (s.toList == (⟨#[]⟩ : ByteArray).toList) = false := by
  rw [beq_eq_false_iff_ne]
  exact fun e => h (toList_inj.1 e)
theorem same_rule {a b : Rp} {s t : ByteArray} (ha : rightR a = true) (hb : rightR b = true) (hs : s.data.toList = textR a) (ht : t.data.toList = textR b) (q : Bool) (hq : q = true ↔ a = b) : (s.toList == t.toList) = q := by
  cases q with
  | true =>
    have e := hq.1 rfl
    subst e
    have : s = t := ByteArray.ext (Array.toList_inj.1 (hs.trans ht.symm))
    subst this
    simp
  | false =>
    rw [beq_eq_false_iff_ne]
    intro e
    have e2 : s = t := toList_inj.1 e
    subst e2
    have := hq.2 (textR_inj ha hb (hs.symm.trans ht))
    cases this
set_option maxHeartbeats 16000000 in
set_option maxRecDepth 100000 in
theorem back_law (a b : Rz) (la : Option Addr) (ln lc : Nat) (xs : List Tm) (i : Int) (w : World) (he : Env w) (ha : a.In w) (hb : b.In w) (hl : LiesT w la ln lc xs) :
    Calls Tryz.prog 4 #[aggR a, aggR b, .slice la ln lc, .int .i64 i] w fun e w' => e = .returned (.bool true) ∧ Below w.heap.size w w' := by
  obtain ⟨A0, B0, hw0⟩ := r2_of w a b
  have F1 := hide (heavyR_any a _ (ha.on hw0))
  have HA := hide A0
  have HB := hide B0
  obtain ⟨c0, c1, c2, c3⟩ := A0
  obtain ⟨d0, d1, d2, d3⟩ := B0
  go_enter Tryz.func4, Tryz.ntmps4
  go_wp2_with fail
  generalize (w.alloc (bxR a)).alloc (bxR b) = W0 at hw0 F1 HA HB c0 c1 c2 c3 d0 d1 d2 d3 ⊢
  refine (unhide F1).mono ?_
  rintro e w1 ⟨rfl | ⟨rfl, hLa⟩, hb1⟩
  · clear c0 c1 c2 c3 d0 d1 d2 d3
    go_wp2_with fail
    go_ret
    exact ⟨rfl, bt hw0 hb1⟩
  have A1 := (unhide HA).on hb1
  have B1 := (unhide HB).on hb1
  have hw1 := bt hw0 hb1
  have HLa := hide hLa
  clear c0 c1 c2 c3 d0 d1 d2 d3 HA HB F1 hw0 hb1 hLa
  have F2 := hide (heavyR_any b w1 (hb.on hw1))
  have HA := hide A1
  have HB := hide B1
  obtain ⟨d0, d1, d2, d3⟩ := B1
  clear A1
  go_wp2_with fail
  refine (unhide F2).mono ?_
  rintro e w2 ⟨rfl | ⟨rfl, hLb⟩, hb2⟩
  · clear d0 d1 d2 d3
    go_wp2_with fail
    go_ret
    exact ⟨rfl, bt hw1 hb2⟩
  have A2 := hide ((unhide HA).on hb2)
  have B2 := hide ((unhide HB).on hb2)
  have hw2 := bt hw1 hb2
  have HLb := hide hLb
  clear d0 d1 d2 d3 HA HB F2 hw1 hb2 hLb
  have hl2 := hl.on hw2
  have F3 := hide (heavyT_any la ln lc xs w2 hl2.row hl2.le hl2.ge)
  clear hl2
  go_wp2_with fail
  refine (unhide F3).mono ?_
  rintro e w3 ⟨rfl | ⟨rfl, hn, hx⟩, hb3⟩
  · go_wp2_with fail
    go_ret
    exact ⟨rfl, bt hw2 hb3⟩
  have A3 := hide ((unhide A2).on hb3)
  have B3 := hide ((unhide B2).on hb3)
  have hw3 := bt hw2 hb3
  have HX := hide hx
  clear A2 B2 F3 hw2 hb3 hx
  have F4 := hide (rread_u la ln lc xs i w3 (he.on hw3) (hl.on hw3) hn (unhide HX))
  go_wp2_with fail
  refine (unhide F4).mono ?_
  rintro e w4 ⟨⟨z, p, g, rfl, hz, hg⟩, hb4⟩
  have hbx := below_new w4 (bxR z)
  have A4 := hide (((unhide A3).on hb4).on hbx)
  have B4 := hide (((unhide B3).on hb4).on hbx)
  have hw4 := bt (bt hw3 hb4) hbx
  have Z4 : BR _ _ z := br_of (heap_alloc_new w4 (bxR z))
  have hz4 := hz.on hbx
  have HG := hide hg
  clear A3 B3 F4 hw3 hb4 hbx hz hg
  obtain ⟨z0, z1, z2, z3⟩ := Z4
  go_upto_if 40 with fail
  go_cut [] from 9 (fun wx => Hid (BR wx w.heap.size a) ∧ Hid (BR wx (w.heap.size + 1) b) ∧ Below w.heap.size w wx)
  case first =>
    by_cases h0 : g = 0
    case neg =>
      have d0 : decide (g = 0) = false := decide_eq_false h0
      clear z0 z1 z2 z3 HG
      go_wp2_with fail
      go_meet
      exact ⟨A4, B4, hw4⟩
    subst h0
    obtain ⟨hzr, hzs, hip, hpn⟩ := unhide HG rfl
    have HZR := hide hzr
    have HZS := hide hzs
    have e1 : decide (p ≤ i) = false := decide_eq_false (by omega)
    have e2 : decide ((ln : Int) < p) = false := decide_eq_false (by omega)
    clear hip hpn hzr hzs HG
    have hsz : w4.heap.size < (w4.alloc (bxR z)).heap.size := by simp
    go_wp2_with fail
    have Z4 := hide (BR.mk (r := z) z0 z1 z2 z3)
    clear z0 z1 z2 z3
    generalize w4.heap.size = zb at Z4 hsz ⊢
    generalize w4.alloc (bxR z) = W4 at A4 B4 hw4 hz4 Z4 hsz ⊢
    refine (rtext_u z W4 (he.on hw4) hz4 (unhide HZS)).mono ?_
    rintro e w5 ⟨⟨s, c, rfl, hs, HT⟩, hb5⟩
    have Z5 := hide ((unhide Z4).on hb5)
    have hz5 := hz4.on hb5
    have A5 := hide ((unhide A4).on hb5)
    have B5 := hide ((unhide B4).on hb5)
    have hw5 := bt hw4 hb5
    have hsz5 : zb < w5.heap.size := by have := hb5.size; omega
    clear A4 B4 Z4 hz4 hw4 hsz
    go_wp2_with fail
    refine (rparse_u s z.pl c w5 (he.on hw5) hs HT).mono ?_
    rintro e w6 ⟨⟨y, g, rfl, hy, hyf, HY⟩, hb6⟩
    have hbx := below_new w6 (bxR y)
    have Z6 := hide (((unhide Z5).on hb6).on hbx)
    have hz6 := (hz5.on hb6).on hbx
    have A6 := hide (((unhide A5).on hb6).on hbx)
    have B6 := hide (((unhide B5).on hb6).on hbx)
    have hw6 := bt (bt hw5 hb6) hbx
    have Y6 : BR _ _ y := br_of (heap_alloc_new w6 (bxR y))
    have hy6 := hy.on hbx
    clear Z5 hz5 hw5 hb6 hbx hy hsz5 A5 B5
    rcases unhide HT with ⟨rfl, -, -, -⟩ | ⟨hc0, rfl, hc2, hc3⟩
    · obtain ⟨rfl, hpl⟩ := unhide HY rfl
      have F5 := hide (fun W hy hz => keepR_f y z true W hy hz hyf (hide ⟨fun _ => hpl, fun _ => rfl⟩))
      obtain ⟨z0, z1, z2, z3⟩ := unhide Z6
      obtain ⟨y0, y1, y2, y3⟩ := Y6
      clear HY HT hpl hyf Z6
      go_wp2_with fail
      refine (unhide F5 _ hy6 hz6).mono ?_
      rintro e w7 ⟨rfl, hb7⟩
      have hw7 := bt hw6 hb7
      have A7 := hide ((unhide A6).on hb7)
      have B7 := hide ((unhide B6).on hb7)
      clear z0 z1 z2 z3 y0 y1 y2 y3 hy6 hz6 F5 hw6 hb7
      go_wp2_with fail
      go_meet
      exact ⟨A7, B7, hw7⟩
    · obtain ⟨rfl, -⟩ := hc3 (unhide HZR)
      clear HY HT hyf Z6 Y6 hy6 hz6
      go_wp2_with fail
      go_meet
      exact ⟨A6, B6, hw6⟩
  case rest =>
    obtain ⟨HA, HB, hw5⟩ := hcut
    clear A4 B4 hw4 hz4 HG z0 z1 z2 z3 HX hn
    have hLa := unhide HLa
    have hLb := unhide HLb
    have F5 := hide (rtext_u a wc (he.on hw5) (ha.on hw5) hLa.soft)
    have F6 := hide (fun W (h : Below w.heap.size w W) => rtext_u b W (he.on h) (hb.on h) hLb.soft)
    have haf := hLa.fits
    clear hLa hLb
    obtain ⟨c0, c1, c2, c3⟩ := unhide HA
    go_wp2_with fail
    refine (unhide F5).mono ?_
    rintro e w6 ⟨⟨s, c, rfl, hs, HS⟩, hb6⟩
    have A6 := hide ((unhide HA).on hb6)
    have B6 := hide ((unhide HB).on hb6)
    have hw6 := bt hw5 hb6
    clear HA HB c0 c1 c2 c3 hw5 hb6 F5
    obtain ⟨d0, d1, d2, d3⟩ := unhide B6
    go_wp2_with fail
    refine (unhide F6 _ hw6).mono ?_
    rintro e w7 ⟨⟨t, d, rfl, ht, HT⟩, hb7⟩
    have A7 := hide ((unhide A6).on hb7)
    have B7 := hide ((unhide B6).on hb7)
    have hw7 := bt hw6 hb7
    clear A6 B6 d0 d1 d2 d3 hw6 hb7 F6
    have FW := hide (fun W (h : Below w.heap.size w W) => wakes_any W (he.on h))
    rcases unhide HS with ⟨rfl, hra, hsa, hla⟩ | ⟨hc0, rfl, -, -⟩
    · rcases unhide HT with ⟨rfl, hrb, htb, hlb⟩ | ⟨hd0, rfl, -, -⟩
      · obtain ⟨q, hq⟩ := bool_of (a.pl = b.pl)
        have HST := same_rule hra hrb hsa htb q hq
        have F7 := hide (fun W (h : Below w.heap.size w W) => rparse_u s a.pl 0 W (he.on h) hs HS)
        have F8 := hide (fun (y : Rz) W (hy : y.In W) (hyf : y.Fits) (hpl : y.pl = a.pl) (h : Below w.heap.size w W) => keepR_f y a true W hy (ha.on h) hyf (hide ⟨fun _ => hpl, fun _ => rfl⟩))
        have F9 := hide (fun W (h : Below w.heap.size w W) => keepR_f a b q W (ha.on h) (hb.on h) haf (hide hq))
        clear hra hrb hsa htb hla hlb hq HS HT haf
        go_wp2_with fail
        refine (unhide F7 _ hw7).mono ?_
        rintro e w8 ⟨⟨y, g, rfl, hy, hyf, HY⟩, hb8⟩
        obtain ⟨rfl, hpl⟩ := unhide HY trivial
        have hbx := below_new w8 (bxR y)
        have A8 := hide (((unhide A7).on hb8).on hbx)
        have B8 := hide (((unhide B7).on hb8).on hbx)
        have hw8 := bt (bt hw7 hb8) hbx
        have F8' := hide (unhide F8 y _ (hy.on hbx) hyf hpl hw8)
        obtain ⟨y0, y1, y2, y3⟩ := br_of (heap_alloc_new w8 (bxR y))
        obtain ⟨c0, c1, c2, c3⟩ := unhide A8
        clear A7 B7 F7 hw7 hb8 hbx hy hyf HY hpl F8
        go_wp2_with fail
        refine (unhide F8').mono ?_
        rintro e w9 ⟨rfl, hb9⟩
        have A9 := hide ((unhide A8).on hb9)
        have B9 := hide ((unhide B8).on hb9)
        have hw9 := bt hw8 hb9
        clear y0 y1 y2 y3 c0 c1 c2 c3 A8 B8 hw8 hb9 F8'
        obtain ⟨c0, c1, c2, c3⟩ := unhide A9
        obtain ⟨d0, d1, d2, d3⟩ := unhide B9
        go_wp2_with fail
        refine (unhide F9 _ hw9).mono ?_
        rintro e w10 ⟨rfl, hb10⟩
        have hw10 := bt hw9 hb10
        clear c0 c1 c2 c3 d0 d1 d2 d3 A9 B9 hw9 hb10 F9
        go_wp2_with fail
        refine (unhide FW _ hw10).mono ?_
        rintro e w11 ⟨rfl, hb11⟩
        have hw11 := bt hw10 hb11
        go_wp2_with fail
        go_ret
        exact ⟨rfl, hw11⟩
      · have e0 : decide (d = 0) = false := decide_eq_false hd0
        clear haf HS HT hra hsa hla
        go_wp2_with fail
        refine (unhide FW _ hw7).mono ?_
        rintro e w11 ⟨rfl, hb11⟩
        have hw11 := bt hw7 hb11
        go_wp2_with fail
        go_ret
        exact ⟨rfl, hw11⟩
    · have e0 : decide (c = 0) = false := decide_eq_false hc0
      rcases unhide HT with ⟨rfl, hrb, htb, hlb⟩ | ⟨hd0, rfl, -, -⟩
      · clear haf HS HT hrb htb hlb
        go_wp2_with fail
        refine (unhide FW _ hw7).mono ?_
        rintro e w11 ⟨rfl, hb11⟩
        have hw11 := bt hw7 hb11
        go_wp2_with fail
        go_ret
        exact ⟨rfl, hw11⟩
      · have e1 : decide (d = 0) = false := decide_eq_false hd0
        clear haf HS HT
        go_wp2_with fail
        refine (unhide FW _ hw7).mono ?_
        rintro e w11 ⟨rfl, hb11⟩
        have hw11 := bt hw7 hb11
        go_wp2_with fail
        go_ret
        exact ⟨rfl, hw11⟩
end Go.Proofs.YtmeopfgadlofjaaGreatDoor.Sb

