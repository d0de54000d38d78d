/- The walk of constablelaw11.RulesTwo: it answers true, whatever the rules. -/
import Derived.Test.YtmeopfgadlofjaaGreatDoorRvZd
import Derived.Test.YtmeopfgadlofjaaGreatDoorRulZa
namespace Go.Proofs.YtmeopfgadlofjaaGreatDoor.Sb
open Go.RowKit
open V
open Ex (RowO LiesO flatO liesO_own)

/-- What lex.Tokens answers of a text that is too long. -/
theorem lex_big (s : ByteArray) (w : World) (hs : 20000 < s.size) :
    Calls Tryz.prog 21 #[.string s] w fun e w' => e = .returned (.tuple #[.slice none 0 0, .agg #[.int .i64 0, .int .i64 0], .int .i64 2]) ∧ Below w.heap.size w w' := by
  have d0 : decide (20000 < (s.size : Int)) = true := decide_eq_true (by omega)
  go_enter Tryz.func21, Tryz.ntmps21
  go_wp2_with fail
  have hp := PB.new w 0 0
  obtain ⟨p0, p1⟩ : _ ∧ _ := ⟨hp.c0, hp.c1⟩
  refine bodyPost_ret (v := .tuple #[.slice none 0 0, .agg #[.int .i64 0, .int .i64 0], .int .i64 2]) (by simp [results, Tryz.results21, go_sem, p0, p1]) rfl ?_
  exact ⟨rfl, (Below.refl _ _).alloc (Nat.le_refl _) _⟩
theorem two_text {a b : Rp} (ha : rightR a = true) (hb : rightR b = true) {s t : ByteArray} (hs : s.data.toList = textR a) (ht : t.data.toList = textR b) (hl : s.size + 1 + t.size ≤ 20000) :
    ∃ us, lexA rightK ((s ++ ⟨#[10]⟩) ++ t).data.toList 0 = .ok us ∧ us.length ≤ 19999 ∧ us.map kt = ruleK a ++ ruleK b := by
  obtain ⟨us, h1, h2⟩ := lex_two ha hb sep_line 0
  refine ⟨us, ?_, ?_, h2⟩
  · rw [ByteArray.data_append, ByteArray.data_append, Array.toList_append, Array.toList_append, hs, ht]
    simpa using h1
  · have e := congrArg List.length h2
    rw [List.length_map, List.length_append] at e
    have := rule_few ha
    have := rule_few hb
    rw [← hs, size_list] at *
    have : (textR b).length = t.size := by rw [← ht, size_list]
    omega
theorem two_not {a b : Rp} (ha : rightR a = true) (hb : rightR b = true) {s t : ByteArray} (hs : s.data.toList = textR a) (ht : t.data.toList = textR b) (hl : s.size + 1 + t.size ≤ 20000) : noText (s ++ t).data.toList := by
  obtain ⟨us, h1, h2⟩ := lex_two ha hb sep_nil 0
  refine ⟨us, ?_, ?_, fun v hv => ?_⟩
  · rw [ByteArray.data_append, Array.toList_append, hs, ht]
    simpa using h1
  · have e := congrArg List.length h2
    rw [List.length_map, List.length_append] at e
    have h3 := rule_few ha
    have h4 := rule_few hb
    have h5 : (textR a).length = s.size := by rw [← hs, size_list]
    have h6 : (textR b).length = t.size := by rw [← ht, size_list]
    omega
  · obtain ⟨h3, h4⟩ := two_none (a := a) (b := b) ha
    rw [h2, h3] at hv
    have e := congrArg List.length h2
    rw [List.length_map] at e
    simp only [Except.ok.injEq, Prod.mk.injEq] at hv
    exact h4 (hv.2.trans e)
set_option maxHeartbeats 16000000 in
set_option maxRecDepth 100000 in
theorem two_law (a b : Rz) (w : World) (he : Env w) (ha : a.In w) (hb : b.In w) :
    Calls Tryz.prog 5 #[aggR a, aggR b] w fun e w' => e = .returned (.bool true) ∧ Below w.heap.size w w' := by
  obtain ⟨A0, B0, hw0⟩ := r2_of w a b
  have F1 := hide (heavyR_any a _ (ha.on hw0))
  have HA := hide A0
  have HB := hide B0
  obtain ⟨c0, c1, c2, c3⟩ := A0
  clear B0
  go_enter Tryz.func5, Tryz.ntmps5
  go_wp2_with fail
  generalize (w.alloc (bxR a)).alloc (bxR b) = W0 at hw0 F1 HA HB c0 c1 c2 c3 ⊢
  refine (unhide F1).mono ?_
  rintro e w1 ⟨rfl | ⟨rfl, hLa⟩, hb1⟩
  · clear c0 c1 c2 c3
    go_wp2_with fail
    go_ret
    exact ⟨rfl, bt hw0 hb1⟩
  have A1 := hide ((unhide HA).on hb1)
  have B1 := hide ((unhide HB).on hb1)
  have hw1 := bt hw0 hb1
  have HLa := hide hLa
  clear c0 c1 c2 c3 HA HB F1 hw0 hb1 hLa
  have F2 := hide (heavyR_any b w1 (hb.on hw1))
  obtain ⟨d0, d1, d2, d3⟩ := unhide B1
  go_wp2_with fail
  refine (unhide F2).mono ?_
  rintro e w2 ⟨rfl | ⟨rfl, hLb⟩, hb2⟩
  · clear d0 d1 d2 d3
    go_wp2_with fail
    go_ret
    exact ⟨rfl, bt hw1 hb2⟩
  have A2 := hide ((unhide A1).on hb2)
  have B2 := hide ((unhide B1).on hb2)
  have hw2 := bt hw1 hb2
  have HLb := hide hLb
  clear d0 d1 d2 d3 A1 B1 F2 hw1 hb2 hLb
  have F3 := refRule_any a w2 (ha.on hw2) (unhide HLa)
  obtain ⟨c0, c1, c2, c3⟩ := unhide A2
  cases hra : rightR a.pl with
  | false =>
    rw [hra] at F3
    replace F3 := hide F3
    go_wp2_with fail
    refine (unhide F3).mono ?_
    rintro e w3 ⟨rfl, hb3⟩
    clear c0 c1 c2 c3
    go_wp2_with fail
    go_ret
    exact ⟨rfl, bt hw2 hb3⟩
  | true =>
  rw [hra] at F3
  replace F3 := hide F3
  have HRA := hide hra
  clear hra
  go_wp2_with fail
  refine (unhide F3).mono ?_
  rintro e w3 ⟨rfl, hb3⟩
  have A3 := hide ((unhide A2).on hb3)
  have B3 := hide ((unhide B2).on hb3)
  have hw3 := bt hw2 hb3
  clear c0 c1 c2 c3 A2 B2 F3 hw2 hb3
  have F4 := refRule_any b w3 (hb.on hw3) (unhide HLb)
  obtain ⟨d0, d1, d2, d3⟩ := unhide B3
  cases hrb : rightR b.pl with
  | false =>
    rw [hrb] at F4
    replace F4 := hide F4
    go_wp2_with fail
    refine (unhide F4).mono ?_
    rintro e w4 ⟨rfl, hb4⟩
    clear d0 d1 d2 d3
    go_wp2_with fail
    go_ret
    exact ⟨rfl, bt hw3 hb4⟩
  | true =>
  rw [hrb] at F4
  replace F4 := hide F4
  have HRB := hide hrb
  clear hrb
  go_wp2_with fail
  refine (unhide F4).mono ?_
  rintro e w4 ⟨rfl, hb4⟩
  have A4 := hide ((unhide A3).on hb4)
  have B4 := hide ((unhide B3).on hb4)
  have hw4 := bt hw3 hb4
  clear d0 d1 d2 d3 A3 B3 F4 hw3 hb4
  have F5 := hide (rtext_u a w4 (he.on hw4) (ha.on hw4) (unhide HLa).soft)
  have F6 := hide (fun W (h : Below w.heap.size w W) => rtext_u b W (he.on h) (hb.on h) (unhide HLb).soft)
  obtain ⟨c0, c1, c2, c3⟩ := unhide A4
  go_wp2_with fail
  refine (unhide F5).mono ?_
  rintro e w5 ⟨⟨s, c, rfl, hs, HS⟩, hb5⟩
  have A5 := hide ((unhide A4).on hb5)
  have B5 := hide ((unhide B4).on hb5)
  have hw5 := bt hw4 hb5
  clear A4 B4 c0 c1 c2 c3 hw4 hb5 F5
  obtain ⟨d0, d1, d2, d3⟩ := unhide B5
  go_wp2_with fail
  refine (unhide F6 _ hw5).mono ?_
  rintro e w6 ⟨⟨t, d, rfl, ht, HT⟩, hb6⟩
  have A6 := hide ((unhide A5).on hb6)
  have B6 := hide ((unhide B5).on hb6)
  have hw6 := bt hw5 hb6
  clear A5 B5 d0 d1 d2 d3 hw5 hb6 F6
  have FW := hide (fun W (h : Below w.heap.size w W) => wakes_any W (he.on h))
  rcases unhide HS with ⟨rfl, -, hsa, hla⟩ | ⟨hc0, -, -, hc2⟩
  · rcases unhide HT with ⟨rfl, -, htb, hlb⟩ | ⟨hd0, -, -, hd2⟩
    · clear hla hlb
      obtain ⟨S1, hS1⟩ : ∃ S1 : ByteArray, (s ++ ⟨#[10]⟩) ++ t = S1 := ⟨_, rfl⟩
      have hz1 : S1.size = s.size + 1 + t.size := by rw [← hS1, ByteArray.size_append, ByteArray.size_append]; rfl
      have nb1 : ¬ 9223372036854775807 < s.size + (⟨#[10]⟩ : ByteArray).size := by rw [show (⟨#[10]⟩ : ByteArray).size = 1 from rfl]; omega
      have nb2 : ¬ 9223372036854775807 < (s ++ ⟨#[10]⟩ : ByteArray).size + t.size := by rw [ByteArray.size_append, show (⟨#[10]⟩ : ByteArray).size = 1 from rfl]; omega
      by_cases hbig : 20000 < s.size + 1 + t.size
      · have F7 := hide (fun W => lex_big S1 W (by omega))
        have hwr : wrap64 ((s.size : Int) + (t.size : Int)) = (s.size : Int) + (t.size : Int) := by simp [wrap64]; omega
        have hge : decide ((20000 : Int) ≤ (s.size : Int) + (t.size : Int)) = true := decide_eq_true (by omega)
        clear hsa htb HS HT A6 B6
        go_wp2_with fail
        refine (unhide F7 _).mono ?_
        rintro e w7 ⟨rfl, hb7⟩
        have hbx : Below w7.heap.size w7 (w7.alloc (objPos 0 0)) := (Below.refl _ _).alloc (Nat.le_refl _) _
        have hw7 := bt (bt hw6 hb7) hbx
        clear F7 nb1 nb2 hS1 hz1 hbx hb7 hw6
        go_wp2_with fail
        refine (unhide FW _ hw7).mono ?_
        rintro e w8 ⟨rfl, hb8⟩
        have hw8 := bt hw7 hb8
        go_wp2_with fail
        go_ret
        exact ⟨rfl, hw8⟩
      · have hra := unhide HRA
        have hrb := unhide HRB
        obtain ⟨us, hu1, hu2, hu3⟩ := two_text hra hrb hsa htb (by omega)
        rw [hS1] at hu1
        have HPN := hide (two_not hra hrb hsa htb (by omega))
        have hul : us.length = (ruleK a.pl ++ ruleK b.pl).length := by rw [← hu3, List.length_map]
        obtain ⟨ka, hka⟩ : ∃ k, (ruleK a.pl).length = k := ⟨_, rfl⟩
        have hkl : ka ≤ us.length := by rw [hul, List.length_append]; omega
        have R1 := readR_rule hra (ruleK b.pl)
        have R2 := readR_second (a := a.pl) hrb
        rw [hka] at R1 R2
        rw [← hul] at R2
        rw [← hu3] at R1 R2
        have HR1 := hide R1
        have HR2 := hide R2
        have F7 := hide (fun W (h : Below w.heap.size w W) => lex_lies2 S1 us W (by omega) (he.on h) (hide hu1))
        have F8 := hide (fun W (h : Below w.heap.size w W) => rparse_no (s ++ t) W (he.on h) (by rw [ByteArray.size_append]; omega) HPN)
        have haf := (unhide HLa).fits
        have nb3 : ¬ 9223372036854775807 < s.size + t.size := by omega
        obtain ⟨S2, hS2⟩ : ∃ S2 : ByteArray, s ++ t = S2 := ⟨_, rfl⟩
        rw [hS2] at F8
        have HS2 := hide hS2
        clear hra hrb hsa htb HS HT hu1 hu3 hul hka R1 R2 HPN hS2
        go_wp2_with fail
        refine (unhide F7 _ hw6).mono ?_
        rintro e w7 ⟨⟨la, lc, xs, rfl, hl, HK, HZ⟩, hb7⟩
        have hbx : Below w7.heap.size w7 (w7.alloc (objPos 0 0)) := (Below.refl _ _).alloc (Nat.le_refl _) _
        have A7 := hide (((unhide A6).on hb7).on hbx)
        have B7 := hide (((unhide B6).on hb7).on hbx)
        have hw7 := bt (bt hw6 hb7) hbx
        have hl7 := hl.on hbx
        have HR1' : Hid (readR (xs.map ktm) 0 = .ok (a.pl, ka)) := hide (by rw [unhide HK]; exact unhide HR1)
        have HR2' : Hid (readR (xs.map ktm) ka = .ok (b.pl, us.length)) := hide (by rw [unhide HK]; exact unhide HR2)
        clear F7 nb1 nb2 hS1 hz1 hbx hb7 hw6 A6 B6 hl HK HR1 HR2
        go_wp2_with fail
        generalize w7.alloc (objPos 0 0) = W7 at A7 B7 hw7 hl7 ⊢
        refine (rread_any la us.length lc xs 0 (.ok (a.pl, ka)) W7 ⟨he.on hw7, hl7, HZ, hu2⟩ (Nat.zero_le _) HR1').mono ?_
        rintro e w8 ⟨⟨x, rfl, hxo, hxp⟩, hb8⟩
        simp only at hxp
        have hxr : rightR x.pl = true := by rw [hxp]; exact unhide HRA
        have hxf := right_fits hxo.lies (right_soft hxo hxr) hxr
        have hxi := hxo.lies
        have hbx := below_new w8 (bxR x)
        have A8 := hide (((unhide A7).on hb8).on hbx)
        have B8 := hide (((unhide B7).on hb8).on hbx)
        have hw8 := bt (bt hw7 hb8) hbx
        have hl8 := (hl7.on hb8).on hbx
        have X8 : Hid (BR _ _ x) := hide (br_of (heap_alloc_new w8 (bxR x)))
        have hxi8 := hxi.on hbx
        have HXF := hide hxf
        have HXP := hide hxp
        clear A7 B7 hw7 hl7 HR1' hbx hb8 hxo hxr hxi hxf hxp
        go_wp2_with fail
        have hsz8 : w8.heap.size < (w8.alloc (bxR x)).heap.size := by simp
        generalize w8.heap.size = xb at X8 hsz8 ⊢
        generalize w8.alloc (bxR x) = W8 at A8 B8 hw8 hl8 X8 hxi8 hsz8 ⊢
        refine (rread_any la us.length lc xs ka (.ok (b.pl, us.length)) W8 ⟨he.on hw8, hl8, HZ, hu2⟩ hkl HR2').mono ?_
        rintro e w9 ⟨⟨y, rfl, hyo, hyp⟩, hb9⟩
        simp only at hyp
        have hyr : rightR y.pl = true := by rw [hyp]; exact unhide HRB
        have hyf := right_fits hyo.lies (right_soft hyo hyr) hyr
        have hyi := hyo.lies
        have hbx := below_new w9 (bxR y)
        have A9 := hide (((unhide A8).on hb9).on hbx)
        have B9 := hide (((unhide B8).on hb9).on hbx)
        have X9 := hide (((unhide X8).on hb9).on hbx)
        have hw9 := bt (bt hw8 hb9) hbx
        have hxi9 := (hxi8.on hb9).on hbx
        have Y9 : Hid (BR _ _ y) := hide (br_of (heap_alloc_new w9 (bxR y)))
        have hyi9 := hyi.on hbx
        have HYF := hide hyf
        have HYP := hide hyp
        clear A8 B8 X8 hw8 hl8 HR2' hbx hb9 hyo hyr hyi hyf hyp hxi8 HZ hkl hsz8
        have HS2' := unhide HS2
        go_wp2_with fail
        generalize w9.heap.size = yb at Y9 ⊢
        generalize w9.alloc (bxR y) = W9 at A9 B9 hw9 X9 Y9 hxi9 hyi9 ⊢
        refine (unhide F8 _ hw9).mono ?_
        rintro e w10 ⟨rfl, hb10⟩
        have hbx := below_new w10 zR
        have A10 := hide (((unhide A9).on hb10).on hbx)
        have B10 := hide (((unhide B9).on hb10).on hbx)
        have X10 := hide (((unhide X9).on hb10).on hbx)
        have Y10 := hide (((unhide Y9).on hb10).on hbx)
        have hw10 := bt (bt hw9 hb10) hbx
        have hxi10 := (hxi9.on hb10).on hbx
        have hyi10 := (hyi9.on hb10).on hbx
        clear A9 B9 X9 Y9 hw9 hxi9 hyi9 hb10 hbx F8 HS2' HS2 nb3
        have F9 := hide (keepR_f x a true (w10.alloc zR) hxi10 (ha.on hw10) (unhide HXF) (hide ⟨fun _ => unhide HXP, fun _ => rfl⟩))
        have F10 := hide (fun W (hy : y.In W) (h : Below w.heap.size w W) => keepR_f y b true W hy (hb.on h) (unhide HYF) (hide ⟨fun _ => unhide HYP, fun _ => rfl⟩))
        obtain ⟨x0, x1, x2, x3⟩ := unhide X10
        obtain ⟨a0, a1, a2, a3⟩ := unhide A10
        clear hxi10
        go_wp2_with fail
        refine (unhide F9).mono ?_
        rintro e w11 ⟨rfl, hb11⟩
        have B11 := hide ((unhide B10).on hb11)
        have Y11 := hide ((unhide Y10).on hb11)
        have hw11 := bt hw10 hb11
        have F10' := hide (unhide F10 _ (hyi10.on hb11) hw11)
        clear x0 x1 x2 x3 a0 a1 a2 a3 F9 X10 A10 B10 Y10 hw10 hyi10 hb11 F10
        obtain ⟨y0, y1, y2, y3⟩ := unhide Y11
        obtain ⟨b0, b1, b2, b3⟩ := unhide B11
        go_wp2_with fail
        refine (unhide F10').mono ?_
        rintro e w12 ⟨rfl, hb12⟩
        have hw12 := bt hw11 hb12
        clear y0 y1 y2 y3 b0 b1 b2 b3 F10' B11 Y11 hw11 hb12
        go_wp2_with fail
        refine (unhide FW _ hw12).mono ?_
        rintro e w13 ⟨rfl, hb13⟩
        have hw13 := bt hw12 hb13
        go_wp2_with fail
        go_ret
        exact ⟨rfl, hw13⟩
    · obtain ⟨rfl, -⟩ := hd2 (unhide HRB)
      clear HS HT hsa hla hd0 A6 B6
      go_wp2_with fail
      refine (unhide FW _ hw6).mono ?_
      rintro e w11 ⟨rfl, hb11⟩
      have hw11 := bt hw6 hb11
      go_wp2_with fail
      go_ret
      exact ⟨rfl, hw11⟩
  · obtain ⟨rfl, -⟩ := hc2 (unhide HRA)
    rcases unhide HT with ⟨rfl, -, htb, hlb⟩ | ⟨hd0, -, -, hd2⟩
    · clear HS HT htb hlb hc0 A6 B6
      go_wp2_with fail
      refine (unhide FW _ hw6).mono ?_
      rintro e w11 ⟨rfl, hb11⟩
      have hw11 := bt hw6 hb11
      go_wp2_with fail
      go_ret
      exact ⟨rfl, hw11⟩
    · obtain ⟨rfl, -⟩ := hd2 (unhide HRB)
      clear HS HT hd0 hc0 A6 B6
      go_wp2_with fail
      refine (unhide FW _ hw6).mono ?_
      rintro e w11 ⟨rfl, hb11⟩
      have hw11 := bt hw6 hb11
      go_wp2_with fail
      go_ret
      exact ⟨rfl, hw11⟩
end Go.Proofs.YtmeopfgadlofjaaGreatDoor.Sb

