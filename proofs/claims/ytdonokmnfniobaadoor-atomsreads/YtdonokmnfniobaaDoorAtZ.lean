/- The walk of constablelaw10.AtomsReads: it answers true, whatever the signs and the place. -/
import Derived.Test.YtdonokmnfniobaaDoorAtX
namespace Go.Proofs.YtdonokmnfniobaaDoor.Sb
open Go.RowKit
open V
open Ex (RowO LiesO flatO)

theorem bytes_inj {a b : ByteArray} (h : a.data.toList = b.data.toList) : a = b := by
  refine toList_inj.1 ?_
  rw [ByteArray.toList_eq, ByteArray.toList_eq, h]
theorem data_of (l : List UInt8) : (⟨l.toArray⟩ : ByteArray).data.toList = l := by simp
theorem size_of (l : List UInt8) : (⟨l.toArray⟩ : ByteArray).size = l.length := rfl

set_option maxHeartbeats 8000000 in
set_option maxRecDepth 100000 in
theorem reads_law (al : Option Addr) (ll lc : Nat) (xs : List Tm) (i : Int) (w : World) (he : Env w) (hl : LiesT w al ll lc xs) :
    Calls Tryd.prog 3 #[.slice al ll lc, .int .i64 i] w fun e w' => e = .returned (.bool true) ∧ Below w.heap.size w w' := by
  have F0 := heavyT_any al ll lc xs w hl.row hl.le hl.ge
  by_cases hi : i < 0 ∨ (ll : Int) < i
  · go_enter Tryd.func3, Tryd.ntmps3
    go_wp2_with fail
    refine F0.mono ?_
    rintro e w1 ⟨rfl | ⟨rfl, h300, hz⟩, hb1⟩
    · clear F0
      go_wp2_with fail
      go_ret
      exact ⟨rfl, hb1⟩
    · clear F0 hz
      go_wp2_with fail
      refine (read_arg al ll lc i _ hi).mono ?_
      rintro e w2 ⟨rfl, hb2⟩
      have hbx : Below w2.heap.size w2 (w2.alloc (.cells #[.string ⟨#[]⟩, .slice none 0 0] 26)) := (Below.refl _ _).alloc (Nat.le_refl _) _
      have hbw2 := bt (bt hb1 hb2) hbx
      have he2 := he.on hbw2
      clear hb2 hbx
      go_wp2_with fail
      generalize w2.alloc (.cells #[.string ⟨#[]⟩, .slice none 0 0] 26) = W2 at hbw2 he2 ⊢
      refine (rexpr_arg al ll lc i _ hi).mono ?_
      rintro e w3 ⟨rfl, hb3⟩
      have hbw3 := bt hbw2 hb3
      have he3 := he2.on hb3
      clear hb3 hbw2 he2
      rcases hi with hi | hi
      · have d1 : decide (i < 0) = true := decide_eq_true hi
        go_wp2_with fail
        refine (wakes_any _ he3).mono ?_
        rintro e w4 ⟨rfl, hb4⟩
        go_wp2_with fail
        go_ret
        exact ⟨rfl, bt hbw3 hb4⟩
      · have d1 : ¬ i < 0 := by omega
        go_wp2_with fail
        refine (wakes_any _ he3).mono ?_
        rintro e w4 ⟨rfl, hb4⟩
        go_wp2_with fail
        go_ret
        exact ⟨rfl, bt hbw3 hb4⟩
  · obtain ⟨p, rfl⟩ := Int.eq_ofNat_of_zero_le (show 0 ≤ i by omega)
    have hp : p ≤ ll := by omega
    have hlen : (xs.map ktm).length = ll := by rw [List.length_map]; exact hl.len.symm
    clear hi
    obtain ⟨ra, hra⟩ : ∃ r, readA (xs.map ktm) p = r := ⟨_, rfl⟩
    obtain ⟨rx, hrx⟩ : ∃ r, readE (xs.map ktm) p = r := ⟨_, rfl⟩
    have HRA := hide hra
    have HRX := hide hrx
    cases ra with
    | error qa =>
      cases rx with
      | error q =>
        have hq := readE_error (by rw [hlen]; exact hp) hrx
        rw [hlen] at hq
        obtain ⟨q0, q1⟩ := hq
        clear hra hrx hlen
        go_enter Tryd.func3, Tryd.ntmps3
        go_wp2_with fail
        refine F0.mono ?_
        rintro e w1 ⟨rfl | ⟨rfl, h300, hz⟩, hb1⟩
        case inl =>
          clear F0
          go_wp2_with fail
          go_ret
          exact ⟨rfl, hb1⟩
        have HZ : Hid (∀ x ∈ xs, x.2.1.size ≤ 20000) := hide (fun x hx => Nat.le_trans (hz x hx) (by decide))
        clear F0 hz
        have hl1 := hl.on hb1
        have he1 := he.on hb1
        go_wp2_with fail
        refine (read_no al ll lc xs p qa _ he1 hl1 HZ (by omega) hp HRA).mono ?_
        rintro e w2 ⟨rfl, hb2⟩
        have hbx : Below w2.heap.size w2 (w2.alloc (.cells #[.string ⟨#[]⟩, .slice none 0 0] 26)) := (Below.refl _ _).alloc (Nat.le_refl _) _
        have hbw2 := bt (bt hb1 hb2) hbx
        have he2 := he.on hbw2
        have hl2 := hl.on hbw2
        clear hb2 hbx hl1 he1 hb1
        go_wp2_with fail
        generalize w2.alloc (.cells #[.string ⟨#[]⟩, .slice none 0 0] 26) = W2 at hbw2 he2 hl2 ⊢
        refine (rexpr_no al ll lc xs p q _ he2 hl2 HZ (by omega) hp HRX).mono ?_
        rintro e w9 ⟨rfl, hb9⟩
        have hbw9 := bt hbw2 hb9
        have he9 := he2.on hb9
        clear hbw2 he2 hl2
        clear hb9 HRX HRA HZ hl he
        have d1 : ¬ q < p := by omega
        have d2 : ¬ ll < q := by omega
        go_wp2_with fail
        refine (wakes_any _ he9).mono ?_
        rintro e w10 ⟨rfl, hb10⟩
        go_wp2_with fail
        go_ret
        exact ⟨rfl, bt hbw9 hb10⟩
      | ok y =>
        obtain ⟨l, q⟩ := y
        obtain ⟨hxr, q0, q1⟩ := readE_right (by rw [hlen]; exact hp) hrx
        rw [hlen] at q1
        simp only at hxr q0 q1
        obtain ⟨us, hu1, -, hu3⟩ := read_textX hxr 0
        have hxl := textX_len hxr
        obtain ⟨z, hz⟩ : ∃ z : ByteArray, (⟨(textX l).toArray⟩ : ByteArray) = z := ⟨_, rfl⟩
        have HU1 : Hid (lexA rightK z.data.toList 0 = .ok us) := hide (by rw [← hz]; exact hu1)
        have HU3 := hide hu3
        have HZZ := hide hz
        have hzs : z.size ≤ 19999 := by rw [← hz, size_of]; omega
        have HXR := hide hxr
        clear hra hrx hlen hu1 hu3 hz hxl hxr
        go_enter Tryd.func3, Tryd.ntmps3
        go_wp2_with fail
        refine F0.mono ?_
        rintro e w1 ⟨rfl | ⟨rfl, h300, hz⟩, hb1⟩
        case inl =>
          clear F0
          go_wp2_with fail
          go_ret
          exact ⟨rfl, hb1⟩
        have HZ : Hid (∀ x ∈ xs, x.2.1.size ≤ 20000) := hide (fun x hx => Nat.le_trans (hz x hx) (by decide))
        clear F0 hz
        have hl1 := hl.on hb1
        have he1 := he.on hb1
        go_wp2_with fail
        refine (read_no al ll lc xs p qa _ he1 hl1 HZ (by omega) hp HRA).mono ?_
        rintro e w2 ⟨rfl, hb2⟩
        have hbx : Below w2.heap.size w2 (w2.alloc (.cells #[.string ⟨#[]⟩, .slice none 0 0] 26)) := (Below.refl _ _).alloc (Nat.le_refl _) _
        have hbw2 := bt (bt hb1 hb2) hbx
        have he2 := he.on hbw2
        have hl2 := hl.on hbw2
        clear hb2 hbx hl1 he1 hb1
        go_wp2_with fail
        generalize w2.alloc (.cells #[.string ⟨#[]⟩, .slice none 0 0] 26) = W2 at hbw2 he2 hl2 ⊢
        refine (rexpr_ok al ll lc xs p (l, q) _ he2 hl2 HZ (by omega) hp HRX).mono ?_
        rintro e w9 ⟨⟨xa, xn, xc, rfl, hx⟩, hb9⟩
        simp only at hx ⊢
        have hbw9 := bt hbw2 hb9
        have he9 := he2.on hb9
        clear hbw2 he2 hl2
        clear hb9 HRX HRA HZ hl he
        go_wp2_with fail
        refine (expr_right xa xn xc l z _ he9 hx (fun o ho => rightO_lt ((expr_iff.1 (unhide HXR)).2.1 o ho)) HXR HZZ).mono ?_
        rintro e w10 ⟨rfl, hb10⟩
        have hbw10 := bt hbw9 hb10
        have he10 := he9.on hb10
        have hx10 := hx.on hb10
        clear hb10 hbw9 he9 hx HZZ
        go_wp2_with fail
        refine (lex_lies z us _ hzs he10 HU1).mono ?_
        rintro e w11 ⟨⟨ka, kc, ys, rfl, hk, HK, HZK, hu⟩, hb11⟩
        have hbx : Below w11.heap.size w11 (w11.alloc (objPos 0 0)) := (Below.refl _ _).alloc (Nat.le_refl _) _
        have hbw11 := bt (bt hbw10 hb11) hbx
        have he11 := (he10.on hb11).on hbx
        have hx11 := (hx10.on hb11).on hbx
        have hk11 := hk.on hbx
        have HRK : Hid (readE (ys.map ktm) 0 = .ok (l, us.length)) := hide (by rw [unhide HK]; exact unhide HU3)
        clear hb11 hbx hbw10 he10 hx10 hk HU1 HU3 HK
        go_wp2_with fail
        generalize w11.alloc (objPos 0 0) = W11 at hbw11 he11 hx11 hk11 ⊢
        refine (rexpr_ok ka us.length kc ys 0 (l, us.length) _ he11 hk11 HZK hu (Nat.zero_le _) HRK).mono ?_
        rintro e w12 ⟨⟨ya, yn, yc, rfl, hy⟩, hb12⟩
        simp only at hy ⊢
        have hbw12 := bt hbw11 hb12
        have he12 := he11.on hb12
        have hx12 := hx11.on hb12
        clear hb12 hbw11 he11 hx11 hk11 HRK HZK hu
        have h15 : xn ≤ 20000 := by have := hx12.len; have := (expr_iff.1 (unhide HXR)).1.2; omega
        have FK := keepOps_any xa ya xn yn xc yc l l w12 hx12.row hy.row hx12.le hx12.ge hy.le hy.ge h15
        rw [decide_eq_true rfl] at FK
        have FKH := hide FK
        clear FK hx12 hy HXR h15
        have d1 : p < q := by omega
        have d2 : q ≤ ll := by omega
        go_wp2_with fail
        refine (unhide FKH).mono ?_
        rintro e w13 ⟨rfl, hb13⟩
        have hbw13 := bt hbw12 hb13
        have he13 := he12.on hb13
        clear hb13 hbw12 he12 FKH
        go_wp2_with fail
        refine (wakes_any _ he13).mono ?_
        rintro e w14 ⟨rfl, hb14⟩
        go_wp2_with fail
        go_ret
        exact ⟨rfl, bt hbw13 hb14⟩
    | ok x =>
      obtain ⟨hri, a0', a1'⟩ := readA_right hra
      rw [hlen] at a1'
      have hx5 : x.1.2.length ≤ 5 := by
        simp only [V.rightA, Bool.and_eq_true, decide_eq_true_eq] at hri
        exact hri.2.1
      have hal := textA_len hri
      obtain ⟨zt, hzt⟩ : ∃ z : ByteArray, (⟨(textA x.1).toArray⟩ : ByteArray) = z := ⟨_, rfl⟩
      have HPT : Hid (parseA zt.data.toList = some x.1) := hide (by rw [← hzt]; exact parseA_text hri)
      have hzts : zt.size ≤ 19999 := by rw [← hzt, size_of]; omega
      have HRI := hide hri
      have HZT := hide hzt
      have e1 : ¬ x.2 ≤ p := by omega
      have e2 : ¬ ll < x.2 := by omega
      clear hri hal hzt
      cases rx with
      | error q =>
        have hq := readE_error (by rw [hlen]; exact hp) hrx
        rw [hlen] at hq
        obtain ⟨q0, q1⟩ := hq
        clear hra hrx hlen
        go_enter Tryd.func3, Tryd.ntmps3
        go_wp2_with fail
        refine F0.mono ?_
        rintro e w1 ⟨rfl | ⟨rfl, h300, hz⟩, hb1⟩
        case inl =>
          clear F0
          go_wp2_with fail
          go_ret
          exact ⟨rfl, hb1⟩
        have HZ : Hid (∀ x ∈ xs, x.2.1.size ≤ 20000) := hide (fun x hx => Nat.le_trans (hz x hx) (by decide))
        clear F0 hz
        have hl1 := hl.on hb1
        have he1 := he.on hb1
        go_wp2_with fail
        refine (read_ok al ll lc xs p x _ he1 hl1 HZ (by omega) hp HRA).mono ?_
        rintro e w2 ⟨⟨za, aa, an, ac, rfl, hza, hown⟩, hb2⟩
        have A2 := AB.new w2 za (.slice aa an ac)
        have hbx : Below w2.heap.size w2 (w2.alloc (.cells #[.string za, .slice aa an ac] 26)) := (Below.refl _ _).alloc (Nat.le_refl _) _
        have hbw2 := bt (bt hb1 hb2) hbx
        have he2 := he.on hbw2
        have hl2 := hl.on hbw2
        have hL2 := (lies_row hown).on hbx
        have han : an ≤ 5 := by have := (lies_row hown).len; omega
        clear hb2 hbx hl1 he1 hb1 hown
        obtain ⟨a0, a1⟩ : _ ∧ _ := ⟨A2.c0, A2.c1⟩
        go_wp2_with fail
        clear a0 a1
        have hsz : w2.heap.size < (w2.alloc (.cells #[.string za, .slice aa an ac] 26)).heap.size := A2.lt
        generalize w2.heap.size = pa at A2 hsz ⊢
        generalize w2.alloc (.cells #[.string za, .slice aa an ac] 26) = W2 at A2 hbw2 he2 hl2 hL2 hsz ⊢
        refine (text_right za aa an ac x.1.2 zt _ he2 hL2 (hide (by rw [right_same, hza]; exact unhide HRI)) (hide (by rw [hza]; exact unhide HZT))).mono ?_
        rintro e w3 ⟨rfl, hb3⟩
        have A3 := A2.on hb3
        have hL3 := hL2.on hb3
        have hl3 := hl2.on hb3
        have hbw3 := bt hbw2 hb3
        have he3 := he2.on hb3
        clear A2 hL2 hl2 hbw2 he2 hb3 hsz
        go_wp2_with fail
        refine (parse_ok zt x.1 _ he3 hzts HPT).mono ?_
        rintro e w4 ⟨⟨zb, ba, bn, bc, rfl, hzb, hLb⟩, hb4⟩
        have B4' := AB.new w4 zb (.slice ba bn bc)
        have hbx : Below w4.heap.size w4 (w4.alloc (.cells #[.string zb, .slice ba bn bc] 26)) := (Below.refl _ _).alloc (Nat.le_refl _) _
        have A4 := (A3.on hb4).on hbx
        have hL4 := (hL3.on hb4).on hbx
        have hl4 := (hl3.on hb4).on hbx
        have hLb4 := hLb.on hbx
        have hbw4 := bt (bt hbw3 hb4) hbx
        have he4 := (he3.on hb4).on hbx
        have hzz : za = zb := bytes_inj (hza.trans hzb.symm)
        have FA := keepAtom_any za zb aa ba an bn ac bc x.1.2 x.1.2 (w4.alloc (.cells #[.string zb, .slice ba bn bc] 26)) hL4 hLb4 (by omega)
        rw [decide_eq_true (⟨hzz, rfl⟩ : za = zb ∧ x.1.2 = x.1.2)] at FA
        have FAH := hide FA
        obtain ⟨a0, a1⟩ : _ ∧ _ := ⟨A4.c0, A4.c1⟩
        obtain ⟨b0, b1⟩ : _ ∧ _ := ⟨B4'.c0, B4'.c1⟩
        clear A3 hL3 hl3 hbw3 he3 hb4 hLb hbx hzz FA hza hzb hL4 hLb4 A4 B4' HPT HZT HRI
        go_wp2_with fail
        refine (unhide FAH).mono ?_
        rintro e w5 ⟨rfl, hb5⟩
        have hbw5 := bt hbw4 hb5
        have he5 := he4.on hb5
        have hl5 := hl4.on hb5
        clear a0 a1 b0 b1 FAH hbw4 he4 hl4 hb5
        go_wp2_with fail
        refine (rexpr_no al ll lc xs p q _ he5 hl5 HZ (by omega) hp HRX).mono ?_
        rintro e w9 ⟨rfl, hb9⟩
        have hbw9 := bt hbw5 hb9
        have he9 := he5.on hb9
        clear hbw5 he5 hl5
        clear hb9 HRX HRA HZ hl he
        have d1 : ¬ q < p := by omega
        have d2 : ¬ ll < q := by omega
        go_wp2_with fail
        refine (wakes_any _ he9).mono ?_
        rintro e w10 ⟨rfl, hb10⟩
        go_wp2_with fail
        go_ret
        exact ⟨rfl, bt hbw9 hb10⟩
      | ok y =>
        obtain ⟨l, q⟩ := y
        obtain ⟨hxr, q0, q1⟩ := readE_right (by rw [hlen]; exact hp) hrx
        rw [hlen] at q1
        simp only at hxr q0 q1
        obtain ⟨us, hu1, -, hu3⟩ := read_textX hxr 0
        have hxl := textX_len hxr
        obtain ⟨z, hz⟩ : ∃ z : ByteArray, (⟨(textX l).toArray⟩ : ByteArray) = z := ⟨_, rfl⟩
        have HU1 : Hid (lexA rightK z.data.toList 0 = .ok us) := hide (by rw [← hz]; exact hu1)
        have HU3 := hide hu3
        have HZZ := hide hz
        have hzs : z.size ≤ 19999 := by rw [← hz, size_of]; omega
        have HXR := hide hxr
        clear hra hrx hlen hu1 hu3 hz hxl hxr
        go_enter Tryd.func3, Tryd.ntmps3
        go_wp2_with fail
        refine F0.mono ?_
        rintro e w1 ⟨rfl | ⟨rfl, h300, hz⟩, hb1⟩
        case inl =>
          clear F0
          go_wp2_with fail
          go_ret
          exact ⟨rfl, hb1⟩
        have HZ : Hid (∀ x ∈ xs, x.2.1.size ≤ 20000) := hide (fun x hx => Nat.le_trans (hz x hx) (by decide))
        clear F0 hz
        have hl1 := hl.on hb1
        have he1 := he.on hb1
        go_wp2_with fail
        refine (read_ok al ll lc xs p x _ he1 hl1 HZ (by omega) hp HRA).mono ?_
        rintro e w2 ⟨⟨za, aa, an, ac, rfl, hza, hown⟩, hb2⟩
        have A2 := AB.new w2 za (.slice aa an ac)
        have hbx : Below w2.heap.size w2 (w2.alloc (.cells #[.string za, .slice aa an ac] 26)) := (Below.refl _ _).alloc (Nat.le_refl _) _
        have hbw2 := bt (bt hb1 hb2) hbx
        have he2 := he.on hbw2
        have hl2 := hl.on hbw2
        have hL2 := (lies_row hown).on hbx
        have han : an ≤ 5 := by have := (lies_row hown).len; omega
        clear hb2 hbx hl1 he1 hb1 hown
        obtain ⟨a0, a1⟩ : _ ∧ _ := ⟨A2.c0, A2.c1⟩
        go_wp2_with fail
        clear a0 a1
        have hsz : w2.heap.size < (w2.alloc (.cells #[.string za, .slice aa an ac] 26)).heap.size := A2.lt
        generalize w2.heap.size = pa at A2 hsz ⊢
        generalize w2.alloc (.cells #[.string za, .slice aa an ac] 26) = W2 at A2 hbw2 he2 hl2 hL2 hsz ⊢
        refine (text_right za aa an ac x.1.2 zt _ he2 hL2 (hide (by rw [right_same, hza]; exact unhide HRI)) (hide (by rw [hza]; exact unhide HZT))).mono ?_
        rintro e w3 ⟨rfl, hb3⟩
        have A3 := A2.on hb3
        have hL3 := hL2.on hb3
        have hl3 := hl2.on hb3
        have hbw3 := bt hbw2 hb3
        have he3 := he2.on hb3
        clear A2 hL2 hl2 hbw2 he2 hb3 hsz
        go_wp2_with fail
        refine (parse_ok zt x.1 _ he3 hzts HPT).mono ?_
        rintro e w4 ⟨⟨zb, ba, bn, bc, rfl, hzb, hLb⟩, hb4⟩
        have B4' := AB.new w4 zb (.slice ba bn bc)
        have hbx : Below w4.heap.size w4 (w4.alloc (.cells #[.string zb, .slice ba bn bc] 26)) := (Below.refl _ _).alloc (Nat.le_refl _) _
        have A4 := (A3.on hb4).on hbx
        have hL4 := (hL3.on hb4).on hbx
        have hl4 := (hl3.on hb4).on hbx
        have hLb4 := hLb.on hbx
        have hbw4 := bt (bt hbw3 hb4) hbx
        have he4 := (he3.on hb4).on hbx
        have hzz : za = zb := bytes_inj (hza.trans hzb.symm)
        have FA := keepAtom_any za zb aa ba an bn ac bc x.1.2 x.1.2 (w4.alloc (.cells #[.string zb, .slice ba bn bc] 26)) hL4 hLb4 (by omega)
        rw [decide_eq_true (⟨hzz, rfl⟩ : za = zb ∧ x.1.2 = x.1.2)] at FA
        have FAH := hide FA
        obtain ⟨a0, a1⟩ : _ ∧ _ := ⟨A4.c0, A4.c1⟩
        obtain ⟨b0, b1⟩ : _ ∧ _ := ⟨B4'.c0, B4'.c1⟩
        clear A3 hL3 hl3 hbw3 he3 hb4 hLb hbx hzz FA hza hzb hL4 hLb4 A4 B4' HPT HZT HRI
        go_wp2_with fail
        refine (unhide FAH).mono ?_
        rintro e w5 ⟨rfl, hb5⟩
        have hbw5 := bt hbw4 hb5
        have he5 := he4.on hb5
        have hl5 := hl4.on hb5
        clear a0 a1 b0 b1 FAH hbw4 he4 hl4 hb5
        go_wp2_with fail
        refine (rexpr_ok al ll lc xs p (l, q) _ he5 hl5 HZ (by omega) hp HRX).mono ?_
        rintro e w9 ⟨⟨xa, xn, xc, rfl, hx⟩, hb9⟩
        simp only at hx ⊢
        have hbw9 := bt hbw5 hb9
        have he9 := he5.on hb9
        clear hbw5 he5 hl5
        clear hb9 HRX HRA HZ hl he
        go_wp2_with fail
        refine (expr_right xa xn xc l z _ he9 hx (fun o ho => rightO_lt ((expr_iff.1 (unhide HXR)).2.1 o ho)) HXR HZZ).mono ?_
        rintro e w10 ⟨rfl, hb10⟩
        have hbw10 := bt hbw9 hb10
        have he10 := he9.on hb10
        have hx10 := hx.on hb10
        clear hb10 hbw9 he9 hx HZZ
        go_wp2_with fail
        refine (lex_lies z us _ hzs he10 HU1).mono ?_
        rintro e w11 ⟨⟨ka, kc, ys, rfl, hk, HK, HZK, hu⟩, hb11⟩
        have hbx : Below w11.heap.size w11 (w11.alloc (objPos 0 0)) := (Below.refl _ _).alloc (Nat.le_refl _) _
        have hbw11 := bt (bt hbw10 hb11) hbx
        have he11 := (he10.on hb11).on hbx
        have hx11 := (hx10.on hb11).on hbx
        have hk11 := hk.on hbx
        have HRK : Hid (readE (ys.map ktm) 0 = .ok (l, us.length)) := hide (by rw [unhide HK]; exact unhide HU3)
        clear hb11 hbx hbw10 he10 hx10 hk HU1 HU3 HK
        go_wp2_with fail
        generalize w11.alloc (objPos 0 0) = W11 at hbw11 he11 hx11 hk11 ⊢
        refine (rexpr_ok ka us.length kc ys 0 (l, us.length) _ he11 hk11 HZK hu (Nat.zero_le _) HRK).mono ?_
        rintro e w12 ⟨⟨ya, yn, yc, rfl, hy⟩, hb12⟩
        simp only at hy ⊢
        have hbw12 := bt hbw11 hb12
        have he12 := he11.on hb12
        have hx12 := hx11.on hb12
        clear hb12 hbw11 he11 hx11 hk11 HRK HZK hu
        have h15 : xn ≤ 20000 := by have := hx12.len; have := (expr_iff.1 (unhide HXR)).1.2; omega
        have FK := keepOps_any xa ya xn yn xc yc l l w12 hx12.row hy.row hx12.le hx12.ge hy.le hy.ge h15
        rw [decide_eq_true rfl] at FK
        have FKH := hide FK
        clear FK hx12 hy HXR h15
        have d1 : p < q := by omega
        have d2 : q ≤ ll := by omega
        go_wp2_with fail
        refine (unhide FKH).mono ?_
        rintro e w13 ⟨rfl, hb13⟩
        have hbw13 := bt hbw12 hb13
        have he13 := he12.on hb13
        clear hb13 hbw12 he12 FKH
        go_wp2_with fail
        refine (wakes_any _ he13).mono ?_
        rintro e w14 ⟨rfl, hb14⟩
        go_wp2_with fail
        go_ret
        exact ⟨rfl, bt hbw13 hb14⟩
end Go.Proofs.YtdonokmnfniobaaDoor.Sb
