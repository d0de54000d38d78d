/- The walk of constablelaw12.FormulaBack: it answers true, whatever the patterns and signs. -/
import Derived.Test.YtcjnhhbcleljmaaGreatDoorFpZa
import Derived.Test.YtcjnhhbcleljmaaGreatDoorLexZd
namespace Go.Proofs.YtcjnhhbcleljmaaGreatDoor.Sb
open Go.RowKit
open V

theorem same_pat {a b : Pp} {s t : ByteArray} (ha : rightP a = true) (hb : rightP b = true) (hs : s.data.toList = textP a) (ht : t.data.toList = textP b) (q : Bool) (hq : q = true ↔ a = b) : (s.toList == t.toList) = q := by
  cases q with
  | true =>
    have e := hq.1 rfl
    subst e
    have : s = t := ByteArray.ext (Array.toList_inj.1 (hs.trans ht.symm))
    subst this
    simp
  | false =>
    rw [beq_eq_false_iff_ne]
    intro e
    have e2 : s = t := toList_inj.1 e
    subst e2
    have := hq.2 (textP_inj ha hb (hs.symm.trans ht))
    cases this
theorem keepPat_l (x y : Pz) (q : Bool) (w : World) (hx : x.In w) (hy : y.In w) (hL : x.Light) (HQ : Hid (q = true ↔ x.pl = y.pl)) :
    Calls Tryz.prog 32 #[aggP x, aggP y] w fun e w' => e = .returned (.bool q) ∧ Below w.heap.size w w' :=
  keepPat_q x y q w hx hy (by have := hL.tm; omega) hL.l (fun c hc => by have := (hL.z c hc).m; omega) HQ
/-- A right pattern's text, cut into signs; what is then read of them. -/
theorem lex_patU (s : ByteArray) (v : Pp) (w : World) (he : Env w) (hw : Wd w) (hs : s.size ≤ 20000) (H : Hid (isPat s.data.toList v)) :
    Calls Tryz.prog 41 #[.string s] w fun e w' => (∃ (a : Option Addr) (c n : Nat), e = .returned (.tuple #[.slice a n c, .agg #[.int .i64 0, .int .i64 0], .int .i64 0]) ∧ Hid (∀ W, Below w'.heap.size w' W → Calls Tryz.prog 28 #[.slice a n c, .int .i64 0] W fun e W' => (∃ z : Pz, e = .returned (.tuple #[aggP z, .int .i64 n, .int .i64 0]) ∧ z.In W' ∧ Hid (z.pl = v)) ∧ Below W.heap.size W W')) ∧ Below w.heap.size w w' := by
  obtain ⟨us, hlx, hu, hrd⟩ := unhide H
  refine (lex_lies2 s us w hs he (hide hlx)).mono ?_
  rintro e w' ⟨⟨a, c, xs, rfl, hl, HK, HZ⟩, hb⟩
  refine ⟨⟨a, c, us.length, rfl, hide (fun W hW => ?_)⟩, hb⟩
  refine (freadP_own a c xs us v W (he.on (bt hb hW)) (hw.on (bt hb hW)) (hl.on hW) HK HZ hu (hide hrd)).mono ?_
  rintro e W' ⟨⟨z, rfl, ho, hp⟩, hb'⟩
  exact ⟨⟨z, rfl, ho.lies, hp⟩, hb'⟩
/-- A right formula's. -/
theorem lex_formU (s : ByteArray) (v : List Np) (w : World) (he : Env w) (hw : Wd w) (hs : s.size ≤ 20000) (H : Hid (isForm s.data.toList v)) :
    Calls Tryz.prog 41 #[.string s] w fun e w' => (∃ (a : Option Addr) (c n : Nat), e = .returned (.tuple #[.slice a n c, .agg #[.int .i64 0, .int .i64 0], .int .i64 0]) ∧ Hid (∀ W, Below w'.heap.size w' W → Calls Tryz.prog 27 #[.slice a n c, .int .i64 0] W fun e W' => (∃ (q : Option Addr) (m cp : Nat) (zs : List Nz), e = .returned (.tuple #[.slice q m cp, .int .i64 n, .int .i64 0]) ∧ LiesN W' q m cp zs ∧ Hid (zs.map Nz.pl = v)) ∧ Below W.heap.size W W')) ∧ Below w.heap.size w w' := by
  obtain ⟨us, hlx, hu, hrd⟩ := unhide H
  refine (lex_lies2 s us w hs he (hide hlx)).mono ?_
  rintro e w' ⟨⟨a, c, xs, rfl, hl, HK, HZ⟩, hb⟩
  refine ⟨⟨a, c, us.length, rfl, hide (fun W hW => ?_)⟩, hb⟩
  refine (fread_own a c xs us v W (he.on (bt hb hW)) (hw.on (bt hb hW)) (hl.on hW) HK HZ hu (hide hrd)).mono ?_
  rintro e W' ⟨⟨q, m, cp, zs, rfl, ho, hp⟩, hb'⟩
  exact ⟨⟨q, m, cp, zs, rfl, ho.lies, hp⟩, hb'⟩
set_option maxHeartbeats 16000000 in
set_option maxRecDepth 100000 in
theorem fback_law (a b : Pz) (la : Option Addr) (ln lc : Nat) (xs : List Tm) (i : Int) (w : World) (he : Env w) (hw : Wd w) (ha : a.In w) (hb : b.In w) (hl : LiesT w la ln lc xs) :
    Calls Tryz.prog 5 #[aggP a, aggP b, .slice la ln lc, .int .i64 i] w fun e w' => e = .returned (.bool true) ∧ Below w.heap.size w w' := by
  obtain ⟨A0, B0, hw0⟩ := p2_of w a b
  have F1 := hide (pheavy_any a _ (ha.on hw0))
  have HA := hide A0
  have HB := hide B0
  obtain ⟨c0, c1, c2, c3⟩ := A0
  obtain ⟨d0, d1, d2, d3⟩ := B0
  go_enter Tryz.func5, Tryz.ntmps5
  go_wp2_with fail
  generalize (w.alloc (bxPt a)).alloc (bxPt b) = W0 at hw0 F1 HA HB c0 c1 c2 c3 d0 d1 d2 d3 ⊢
  refine (unhide F1).mono ?_
  rintro e w1 ⟨rfl | ⟨rfl, hLa, hna⟩, hb1⟩
  · clear c0 c1 c2 c3 d0 d1 d2 d3
    go_wp2_with fail
    go_ret
    exact ⟨rfl, bt hw0 hb1⟩
  have A1 := (unhide HA).on hb1
  have B1 := (unhide HB).on hb1
  have hw1 := bt hw0 hb1
  have HLa := hide hLa
  clear c0 c1 c2 c3 d0 d1 d2 d3 HA HB F1 hw0 hb1 hLa hna
  have F2 := hide (pheavy_any b w1 (hb.on hw1))
  have HA := hide A1
  have HB := hide B1
  obtain ⟨d0, d1, d2, d3⟩ := B1
  clear A1
  go_wp2_with fail
  refine (unhide F2).mono ?_
  rintro e w2 ⟨rfl | ⟨rfl, hLb, hnb⟩, hb2⟩
  · clear d0 d1 d2 d3
    go_wp2_with fail
    go_ret
    exact ⟨rfl, bt hw1 hb2⟩
  have A2 := hide ((unhide HA).on hb2)
  have B2 := hide ((unhide HB).on hb2)
  have hw2 := bt hw1 hb2
  have HLb := hide hLb
  clear d0 d1 d2 d3 HA HB F2 hw1 hb2 hLb hnb
  have hl2 := hl.on hw2
  have F3 := hide (heavyT_any la ln lc xs w2 hl2.row hl2.le hl2.ge)
  clear hl2
  go_wp2_with fail
  refine (unhide F3).mono ?_
  rintro e w3 ⟨rfl | ⟨rfl, hn, hx⟩, hb3⟩
  · go_wp2_with fail
    go_ret
    exact ⟨rfl, bt hw2 hb3⟩
  have A3 := hide ((unhide A2).on hb3)
  have B3 := hide ((unhide B2).on hb3)
  have hw3 := bt hw2 hb3
  have HX := hide hx
  clear A2 B2 F3 hw2 hb3 hx
  have F4 := hide (fread_u la ln lc xs i w3 (he.on hw3) (hw.on hw3) (hl.on hw3) hn (unhide HX))
  go_wp2_with fail
  refine (unhide F4).mono ?_
  rintro e w4 ⟨⟨q, m, cp, zs, p, g, rfl, hz, HG⟩, hb4⟩
  have A4 := hide ((unhide A3).on hb4)
  have B4 := hide ((unhide B3).on hb4)
  have hw4 := bt hw3 hb4
  clear A3 B3 F4 hw3 hb4
  go_upto_region 4 with fail
  go_cut [69] from 9 (fun v wx => v = .bool false ∧ Hid (BPt wx w.heap.size a) ∧ Hid (BPt wx (w.heap.size + 1) b) ∧ Below w.heap.size w wx)
  case first =>
    by_cases h0 : g = 0
    case neg =>
      have d0 : decide (g = 0) = false := decide_eq_false h0
      clear HG hz
      go_wp2_with fail
      go_meet
      exact ⟨rfl, A4, B4, hw4⟩
    subst h0
    obtain ⟨hzr, hip, hpn⟩ := unhide HG rfl
    have h40 := right_few40 hz hzr
    have F5 := hide (fcheck_any q m cp zs 0 w4 hz (fun z hm => (light_right hz hzr z hm).1) (by omega) (hide (by rw [hzr]; rfl)))
    have e1 : decide (p ≤ i) = false := decide_eq_false (by omega)
    have e2 : decide ((ln : Int) < p) = false := decide_eq_false (by omega)
    clear hip hpn hzr hz HG h40
    go_wp2_with fail
    refine (unhide F5).mono ?_
    rintro e w5 ⟨rfl, hb5⟩
    have A5 := hide ((unhide A4).on hb5)
    have B5 := hide ((unhide B4).on hb5)
    have hw5 := bt hw4 hb5
    clear A4 B4 F5 hw4 hb5
    go_wp2_with fail
    go_meet
    exact ⟨rfl, A5, B5, hw5⟩
  case rest =>
    obtain ⟨rfl, HA, HB, hw5⟩ := hcut
    clear A4 B4 hw4 hz HG
    have F5 := hide (freadP_u la ln lc xs i wc (he.on hw5) (hw.on hw5) (hl.on hw5) hn (unhide HX))
    clear HX hn
    go_wp2_with fail
    refine (unhide F5).mono ?_
    rintro e w6 ⟨⟨z, p, g, rfl, hz, HG⟩, hb6⟩
    have hbx := below_new w6 (bxPt z)
    have A6 := hide (((unhide HA).on hb6).on hbx)
    have B6 := hide (((unhide HB).on hb6).on hbx)
    have hw6 := bt (bt hw5 hb6) hbx
    have hz6 := hz.on hbx
    have Z6 := bpt_of (heap_alloc_new w6 (bxPt z))
    clear HA HB F5 hw5 hb6 hbx hz
    obtain ⟨z0, z1, z2, z3⟩ := Z6
    go_upto_if 78 with fail
    go_cut [] from 9 (fun wx => Hid (BPt wx w.heap.size a) ∧ Hid (BPt wx (w.heap.size + 1) b) ∧ Below w.heap.size w wx)
    case first =>
      by_cases h0 : g = 0
      case neg =>
        have d0 : decide (g = 0) = false := decide_eq_false h0
        clear z0 z1 z2 z3 HG hz6
        go_wp2_with fail
        go_meet
        exact ⟨A6, B6, hw6⟩
      subst h0
      obtain ⟨hzr, hip, hpn⟩ := unhide HG rfl
      have F6 := hide (pattern_u z _ (he.on hw6) (hw.on hw6) hz6 (right_light hz6 hzr).1)
      rw [hzr] at F6
      have e1 : decide (p ≤ i) = false := decide_eq_false (by omega)
      have e2 : decide ((ln : Int) < p) = false := decide_eq_false (by omega)
      clear hip hpn hzr HG hz6
      go_wp2_with fail
      refine (unhide F6).mono ?_
      rintro e w7 ⟨⟨s, c, rfl, -, HS⟩, hb7⟩
      have A7 := hide ((unhide A6).on hb7)
      have B7 := hide ((unhide B6).on hb7)
      have hw7 := bt hw6 hb7
      clear F6 z0 z1 z2 z3 A6 B6 hw6 hb7
      rcases unhide HS with ⟨rfl, _⟩ | ⟨_, _, ⟨h, _⟩ | ⟨_, rfl, _⟩⟩
      · clear HS
        go_wp2_with fail
        go_meet
        exact ⟨A7, B7, hw7⟩
      · cases h
      · clear HS
        go_wp2_with fail
        go_meet
        exact ⟨A7, B7, hw7⟩
    case rest =>
      obtain ⟨HA, HB, hw5⟩ := hcut
      clear A6 B6 hw6 hz6 HG z0 z1 z2 z3
      have F5 := hide (pattern_u a wc (he.on hw5) (hw.on hw5) (ha.on hw5) (unhide HLa))
      have F6 := hide (fun W (h : Below w.heap.size w W) => pattern_u b W (he.on h) (hw.on h) (hb.on h) (unhide HLb))
      obtain ⟨c0, c1, c2, c3⟩ := unhide HA
      go_wp2_with fail
      refine (unhide F5).mono ?_
      rintro e w6 ⟨⟨s, c, rfl, hs, HS⟩, hb6⟩
      have A6 := hide ((unhide HA).on hb6)
      have B6 := hide ((unhide HB).on hb6)
      have hw6 := bt hw5 hb6
      clear HA HB c0 c1 c2 c3 hw5 hb6 F5
      obtain ⟨d0, d1, d2, d3⟩ := unhide B6
      go_wp2_with fail
      refine (unhide F6 _ hw6).mono ?_
      rintro e w7 ⟨⟨t, d, rfl, ht, HT⟩, hb7⟩
      have A7 := hide ((unhide A6).on hb7)
      have B7 := hide ((unhide B6).on hb7)
      have hw7 := bt hw6 hb7
      clear A6 B6 d0 d1 d2 d3 hw6 hb7 F6
      have FW := hide (fun W (h : Below w.heap.size w W) => fwakes_any W (he.on h) (hw.on h))
      rcases unhide HS with ⟨rfl, hra, hsa, hla⟩ | ⟨hc0, rfl, -⟩
      · rcases unhide HT with ⟨rfl, hrb, htb, hlb⟩ | ⟨hd0, rfl, -⟩
        · obtain ⟨qq, hq⟩ := bool_of (a.pl = b.pl)
          have HST := same_pat hra hrb hsa htb qq hq
          have hfa : rightFm (a.zs.map Nz.pl) = true := (rightP_iff.1 hra).2.2
          have hsh : (textN 0 (a.zs.map Nz.pl)).length ≤ (textP a.pl).length := form_short a.pl
          have HU : Hid (∀ (u : ByteArray) (k : Int), TxU (rightFm (a.zs.map Nz.pl)) (textN 0 (a.zs.map Nz.pl)) u k → k = 0 ∧ u.data.toList = textN 0 (a.zs.map Nz.pl)) := hide (fun u k h => by
            rcases h with ⟨h1, _, h3, _⟩ | ⟨_, _, ⟨h4, _⟩ | ⟨_, _, h5⟩⟩
            · exact ⟨h1, h3⟩
            · rw [hfa] at h4; cases h4
            · omega)
          have F7 := hide (lex_patU s a.pl w7 (he.on hw7) (hw.on hw7) hs (hide (by rw [hsa]; exact pat_is hra)))
          have F8 := hide (fun (y : Pz) W (hy : y.In W) (hpl : y.pl = a.pl) (h : Below w.heap.size w W) => keepPat_l y a true W hy (ha.on h) (right_light hy (by rw [hpl]; exact hra)).1 (hide ⟨fun _ => hpl, fun _ => rfl⟩))
          have F9 := hide (fun W (h : Below w.heap.size w W) => keepPat_l a b qq W (ha.on h) (hb.on h) (unhide HLa) (hide hq))
          have F10 := hide (fun W (h : Below w.heap.size w W) => ftext_u a.na a.nl a.nc a.zs W (he.on h) (hw.on h) (ha.on h).z (unhide HLa).z (unhide HLa).l)
          have F11 := hide (fun (u : ByteArray) W (h : Below w.heap.size w W) (hsz : u.size ≤ 20000) (hu : u.data.toList = textN 0 (a.zs.map Nz.pl)) => lex_formU u (a.zs.map Nz.pl) W (he.on h) (hw.on h) hsz (hide (by rw [hu]; exact form_is hfa)))
          have F12 := hide (fun (q : Option Addr) (m cp : Nat) (ns : List Nz) W (hz : LiesN W q m cp ns) (hpl : ns.map Nz.pl = a.zs.map Nz.pl) (h : Below w.heap.size w W) => keepNodes_q q a.na m a.nl cp a.nc ns a.zs true W hz (ha.on h).z (by have := right_few40 hz (by rw [hpl]; exact hfa); omega) (fun c hc => by have := (light_right hz (by rw [hpl]; exact hfa) c hc).2; omega) (hide ⟨fun _ => hpl, fun _ => rfl⟩))
          clear hra hrb hsa htb hla hlb hq HS HT hfa hsh
          go_wp2_with fail
          refine (unhide F7).mono ?_
          rintro e w8 ⟨⟨ka, kc, kn, rfl, HRd⟩, hb8⟩
          have hbx := below_new w8 (objPos 0 0)
          have A8 := hide (((unhide A7).on hb8).on hbx)
          have B8 := hide (((unhide B7).on hb8).on hbx)
          have hw8 := bt (bt hw7 hb8) hbx
          have FR := hide (unhide HRd _ hbx)
          clear A7 B7 F7 hw7 hb8 hbx HRd
          go_wp2_with fail
          generalize w8.alloc (objPos 0 0) = W8 at A8 B8 hw8 FR ⊢
          refine (unhide FR).mono ?_
          rintro e w9 ⟨⟨y, rfl, hy, HY⟩, hb9⟩
          have hby := below_new w9 (bxPt y)
          have A9 := hide (((unhide A8).on hb9).on hby)
          have B9 := hide (((unhide B8).on hb9).on hby)
          have hw9 := bt (bt hw8 hb9) hby
          have hy9 := hy.on hby
          have Y9 := hide (bpt_of (heap_alloc_new w9 (bxPt y)))
          have hyl : w9.heap.size < (w9.alloc (bxPt y)).heap.size := by simp
          clear A8 B8 FR hw8 hb9 hby hy
          have F10' := hide (unhide F10 _ hw9)
          obtain ⟨c0, c1, c2, c3⟩ := unhide A9
          clear F10
          go_wp2_with fail
          clear c0 c1 c2 c3
          generalize w9.heap.size = yb at Y9 hyl ⊢
          generalize w9.alloc (bxPt y) = W9 at A9 B9 hw9 hy9 Y9 hyl F10' ⊢
          refine (unhide F10').mono ?_
          rintro e w10 ⟨⟨u, uc, rfl, hus, HUT⟩, hb10⟩
          obtain ⟨rfl, hu⟩ := unhide HU u uc (unhide HUT)
          have A10 := hide ((unhide A9).on hb10)
          have B10 := hide ((unhide B9).on hb10)
          have Y10 := hide ((unhide Y9).on hb10)
          have hy10 := hy9.on hb10
          have hw10 := bt hw9 hb10
          have F11' := hide (unhide F11 u w10 hw10 hus hu)
          clear A9 B9 Y9 hy9 hw9 hb10 F10' F11 HUT HU hu hyl
          go_wp2_with fail
          refine (unhide F11').mono ?_
          rintro e w11 ⟨⟨ma, mc, mn, rfl, HRd⟩, hb11⟩
          have hbx := below_new w11 (objPos 0 0)
          have A11 := hide (((unhide A10).on hb11).on hbx)
          have B11 := hide (((unhide B10).on hb11).on hbx)
          have Y11 := hide (((unhide Y10).on hb11).on hbx)
          have hy11 := (hy10.on hb11).on hbx
          have hw11 := bt (bt hw10 hb11) hbx
          have FR := hide (unhide HRd _ hbx)
          clear A10 B10 Y10 hy10 hw10 hb11 hbx HRd F11'
          go_wp2_with fail
          generalize w11.alloc (objPos 0 0) = W11 at A11 B11 Y11 hy11 hw11 FR ⊢
          refine (unhide FR).mono ?_
          rintro e w12 ⟨⟨nq, nm, ncp, ns, rfl, hns, HNS⟩, hb12⟩
          have A12 := hide ((unhide A11).on hb12)
          have B12 := hide ((unhide B11).on hb12)
          have hy12 := hy11.on hb12
          have hw12 := bt hw11 hb12
          have F8' := hide (unhide F8 y w12 hy12 (unhide HY) hw12)
          obtain ⟨y0, y1, y2, y3⟩ := (unhide Y11).on hb12
          obtain ⟨c0, c1, c2, c3⟩ := unhide A12
          clear A11 B11 Y11 hy11 hw11 hb12 FR F8 hy12 HY
          go_wp2_with fail
          refine (unhide F8').mono ?_
          rintro e w13 ⟨rfl, hb13⟩
          have A13 := hide ((unhide A12).on hb13)
          have B13 := hide ((unhide B12).on hb13)
          have hw13 := bt hw12 hb13
          have F12' := hide (unhide F12 nq nm ncp ns w13 (hns.on hb13) (unhide HNS) hw13)
          clear y0 y1 y2 y3 c0 c1 c2 c3 A12 B12 hw12 hb13 F8' F12 hns HNS
          obtain ⟨c0, c1, c2, c3⟩ := unhide A13
          go_wp2_with fail
          refine (unhide F12').mono ?_
          rintro e w14 ⟨rfl, hb14⟩
          have A14 := hide ((unhide A13).on hb14)
          have B14 := hide ((unhide B13).on hb14)
          have hw14 := bt hw13 hb14
          have F9' := hide (unhide F9 w14 hw14)
          clear c0 c1 c2 c3 A13 B13 hw13 hb14 F12' F9
          obtain ⟨c0, c1, c2, c3⟩ := unhide A14
          obtain ⟨d0, d1, d2, d3⟩ := unhide B14
          go_wp2_with fail
          refine (unhide F9').mono ?_
          rintro e w15 ⟨rfl, hb15⟩
          have hw15 := bt hw14 hb15
          clear c0 c1 c2 c3 d0 d1 d2 d3 A14 B14 hw14 hb15 F9'
          go_wp2_with fail
          refine (unhide FW _ hw15).mono ?_
          rintro e w16 ⟨rfl, hb16⟩
          have hw16 := bt hw15 hb16
          go_wp2_with fail
          go_ret
          exact ⟨rfl, hw16⟩
        · have e0 : decide (d = 0) = false := decide_eq_false hd0
          clear HS HT hra hsa hla
          go_wp2_with fail
          refine (unhide FW _ hw7).mono ?_
          rintro e w11 ⟨rfl, hb11⟩
          have hw11 := bt hw7 hb11
          go_wp2_with fail
          go_ret
          exact ⟨rfl, hw11⟩
      · have e0 : decide (c = 0) = false := decide_eq_false hc0
        rcases unhide HT with ⟨rfl, hrb, htb, hlb⟩ | ⟨hd0, rfl, -⟩
        · clear HS HT hrb htb hlb
          go_wp2_with fail
          refine (unhide FW _ hw7).mono ?_
          rintro e w11 ⟨rfl, hb11⟩
          have hw11 := bt hw7 hb11
          go_wp2_with fail
          go_ret
          exact ⟨rfl, hw11⟩
        · have e1 : decide (d = 0) = false := decide_eq_false hd0
          clear HS HT
          go_wp2_with fail
          refine (unhide FW _ hw7).mono ?_
          rintro e w11 ⟨rfl, hb11⟩
          have hw11 := bt hw7 hb11
          go_wp2_with fail
          go_ret
          exact ⟨rfl, hw11⟩
end Go.Proofs.YtcjnhhbcleljmaaGreatDoor.Sb
