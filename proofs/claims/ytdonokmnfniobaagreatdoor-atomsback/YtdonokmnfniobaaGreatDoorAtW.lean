/- That the law's wakes answers true. -/
import Derived.Test.YtdonokmnfniobaaGreatDoorAtO
namespace Go.Proofs.YtdonokmnfniobaaGreatDoor.Sb
open Go.RowKit
open V
open Ex (RowO LiesO flatO)

abbrev wkL : List Kt := [(5, [40]), (2, [88]), (5, [43]), (5, [40]), (3, [50]), (5, [42]), (2, [89]), (5, [41]), (5, [41]), (1, [122])]
set_option maxHeartbeats 4000000 in
set_option maxRecDepth 100000 in
theorem wakes_any (w : World) (he : Env w) :
    Calls Tryz.prog 13 #[] w fun e w' => e = .returned (.bool true) ∧ Below w.heap.size w w' := by
  obtain ⟨us, hu1, hu2⟩ := lexK_some lex_wake
  have hul : us.length = 10 := by rw [← List.length_map (f := kt), hu2]; rfl
  have HU := hide hu1
  have HU2 := hide hu2
  have HUL := hide hul
  clear hu1 hu2 hul
  go_enter Tryz.func13, Tryz.ntmps13
  go_wp2_with fail
  refine (parse_ok ⟨#[112, 40, 88, 44, 32, 49, 44, 32, 34, 97, 34, 41]⟩ _ _ he (by decide) (hide parse_wake)).mono ?_
  rintro e w1 ⟨⟨z, a, n, c, rfl, hz, hL⟩, hb1⟩
  simp only at hz hL
  have hn : n = 3 := hL.len
  subst hn
  have A1 := AB.new w1 z (.slice a 3 c)
  have hbx : Below w1.heap.size w1 (w1.alloc (.cells #[.string z, .slice a 3 c] 24)) := (Below.refl _ _).alloc (Nat.le_refl _) _
  have hL1 := hL.on hbx
  have hbw := bt hb1 hbx
  have he1 := he.on hbw
  clear hL hb1 hbx he
  go_wp2_with fail
  have hsz : w1.heap.size < (w1.alloc (.cells #[.string z, .slice a 3 c] 24)).heap.size := A1.lt
  generalize w1.heap.size = p at A1 hsz ⊢
  generalize w1.alloc (.cells #[.string z, .slice a 3 c] 24) = W1 at A1 hL1 hbw he1 hsz ⊢
  refine (lex_lies ⟨#[40, 88, 32, 43, 32, 40, 50, 32, 42, 32, 89, 41, 41, 32, 122]⟩ us _ (by decide) he1 HU).mono ?_
  rintro e w2 ⟨⟨la, lc, xs, rfl, hl, HK, HZ, -⟩, hb2⟩
  rw [unhide HUL] at hl ⊢
  have hby : Below w2.heap.size w2 (w2.alloc (objPos 0 0)) := (Below.refl _ _).alloc (Nat.le_refl _) _
  have hl2 := hl.on hby
  have A2 := (A1.on hb2).on hby
  have hL2 := (hL1.on hb2).on hby
  have hbw2 := bt (bt hbw hb2) hby
  have he2 := (he1.on hb2).on hby
  have HKL : Hid (xs.map ktm = wkL) := hide ((unhide HK).trans (unhide HU2))
  clear hl hby hb2 A1 hL1 hbw he1 HK HU HU2 HUL
  go_wp2_with fail
  generalize w2.alloc (objPos 0 0) = W2 at hl2 A2 hL2 hbw2 he2 ⊢
  refine (rexpr_ok la 10 lc xs 0 _ _ he2 hl2 HZ (by decide) (Nat.zero_le _) (hide (by rw [unhide HKL]; exact read_wake))).mono ?_
  rintro e w3 ⟨⟨xa, xn, xc, rfl, hx⟩, hb3⟩
  simp only at hx ⊢
  have hxn : xn = 5 := hx.len
  subst hxn
  have hl3 := hl2.on hb3
  have A3 := A2.on hb3
  have hL3 := hL2.on hb3
  have hbw3 := bt hbw2 hb3
  have he3 := he2.on hb3
  clear hl2 hb3 A2 hL2 hbw2 he2
  go_wp2_with fail
  refine (expr_right xa 5 xc _ ⟨#[40, 88, 32, 43, 32, 40, 50, 32, 42, 32, 89, 41, 41]⟩ _ he3 hx (by intro o ho; exact rightO_lt ((expr_iff.1 expr_wake).2.1 o ho)) (hide expr_wake) (hide (by rw [text_wake]))).mono ?_
  rintro e w4 ⟨rfl, hb4⟩
  have hx4 := hx.on hb4
  have hl4 := hl3.on hb4
  have A4 := A3.on hb4
  have hL4 := hL3.on hb4
  have hbw4 := bt hbw3 hb4
  have he4 := he3.on hb4
  clear hl3 hb4 A3 hL3 hbw3 he3 hx
  go_wp2_with fail
  refine (read_no la 10 lc xs 0 0 _ he4 hl4 HZ (by decide) (Nat.zero_le _) (hide (by rw [unhide HKL]; exact none_wake))).mono ?_
  rintro e w5 ⟨rfl, hb5⟩
  have hbz : Below w5.heap.size w5 (w5.alloc (.cells #[.string ⟨#[]⟩, .slice none 0 0] 24)) := (Below.refl _ _).alloc (Nat.le_refl _) _
  have hx5 := (hx4.on hb5).on hbz
  have A5 := (A4.on hb5).on hbz
  have hL5 := (hL4.on hb5).on hbz
  have hbw5 := bt (bt hbw4 hb5) hbz
  have he5 := (he4.on hb5).on hbz
  clear hl4 hb5 hbz A4 hL4 hbw4 he4 hx4 HKL HZ
  obtain ⟨a0, a1⟩ : _ ∧ _ := ⟨A5.c0, A5.c1⟩
  go_wp2_with fail
  clear a0 a1
  generalize w5.alloc (.cells #[.string ⟨#[]⟩, .slice none 0 0] 24) = W5 at hx5 A5 hL5 hbw5 he5 ⊢
  refine (text_right z a 3 c _ ⟨#[112, 40, 88, 44, 32, 49, 44, 32, 34, 97, 34, 41]⟩ _ he5 hL5 (hide (by rw [right_same, hz]; exact parseA_right parse_wake)) (hide (by rw [hz, textA_wake]))).mono ?_
  rintro e w6 ⟨rfl, hb6⟩
  have A6 := A5.on hb6
  have hbw6 := bt hbw5 hb6
  obtain ⟨b0, b1⟩ : _ ∧ _ := ⟨A6.c0, A6.c1⟩
  clear A5 A6 hL5 he5 hx5 hb6
  go_wp2_with fail
  go_ret
  exact ⟨rfl, hbw6⟩
end Go.Proofs.YtdonokmnfniobaaGreatDoor.Sb
