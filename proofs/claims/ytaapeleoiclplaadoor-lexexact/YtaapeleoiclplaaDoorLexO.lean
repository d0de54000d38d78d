/- What the law's own place answers of a place that is one; that the law's wakes answers true. -/
import Derived.Test.YtaapeleoiclplaaDoorLexN
namespace Go.Proofs.YtaapeleoiclplaaDoor
open Go.RowKit
open V

set_option maxHeartbeats 4000000 in
set_option maxRecDepth 100000 in
theorem place_any (s : ByteArray) (q a b : Nat) (w : World) (hs : s.size ≤ 20000) (hq : q < s.size) (H : Hid (posL s.data.toList q = (a, b))) :
    Calls Tryd.prog 13 #[.string s, .agg #[.int .i64 a, .int .i64 b]] w fun e w' => e = .returned (.int .i64 q) ∧ Below w.heap.size w w' := by
  obtain ⟨S, HS⟩ : ∃ S, Hid (s.data.toList = S) := ⟨_, hide rfl⟩
  have HL0 : Hid (S.length = s.size) := hide (by rw [← unhide HS]; simp)
  rw [unhide HS] at H
  go_enter Tryd.func13, Tryd.ntmps13
  go_wp2
  have hp := PB.new w a b
  have hb0 : Below w.heap.size w (w.alloc (.cells #[.int .i64 a, .int .i64 b] 25)) := (Below.refl _ _).alloc (Nat.le_refl _) _
  generalize w.alloc (.cells #[.int .i64 (a : Int), .int .i64 (b : Int)] 25) = W at hp hb0 ⊢
  obtain ⟨p0, p1⟩ : _ ∧ _ := ⟨hp.c0, hp.c1⟩
  go_loop [5, 6, 7] (fun l c i => ∃ (k x y : Nat), k ≤ q ∧ i = .int .i64 k ∧ l = .int .i64 x ∧ c = .int .i64 y ∧ Hid (posL S k = (x, y)) ∧ x ≤ 20001 ∧ y ≤ 20001) (fun _ _ i => s.size - (intOf i).toNat)
  case atStart => exact ⟨0, 1, 1, by omega, rfl, rfl, rfl, hide (posL_zero S), by omega, by omega⟩
  case round =>
    obtain ⟨k, x, y, hk, rfl, rfl, rfl, HX, hx, hy⟩ := hrel
    have hlt : k < s.size := by omega
    have lt1 : decide ((k : Int) < (s.size : Int)) = true := decide_eq_true (by omega)
    by_cases hkq : k = q
    · have he : (x : Nat) = a ∧ y = b := by
        have h1 := unhide HX
        rw [hkq, unhide H] at h1
        exact ⟨(Prod.mk.inj h1).1.symm, (Prod.mk.inj h1).2.symm⟩
      obtain ⟨rfl, rfl⟩ := he
      have HK := hide hkq
      clear hkq
      go_wp2
      go_ret
      exact ⟨by rw [unhide HK]; rfl, hb0⟩
    · have hne : (x, y) ≠ (a, b) := by
        intro e
        have h1 : posL S k = posL S q := by rw [unhide HX, unhide H]; exact e
        exact hkq (posL_inj (by rw [unhide HL0]; omega) (by rw [unhide HL0]; omega) h1)
      have hsq := posL_succ (s := S) (q := k) (by rw [unhide HL0]; exact hlt)
      rw [unhide HX, show S[k]'(by rw [unhide HL0]; exact hlt) = s[k] from by simp only [← unhide HS]; rfl] at hsq
      have hbd := posL_bd S (k + 1) (by omega)
      cases hn : ((s[k].toNat : Int) == 10)
      · have HX' : Hid (posL S (k + 1) = (x, y + 1)) := hide (by rw [hsq, adv_one hn])
        rw [hsq, adv_one hn] at hbd
        clear hsq
        by_cases h1 : x = a
        · have h2 : ¬ y = b := fun h2 => hne (by rw [h1, h2])
          have t1 : ((x : Int) == (a : Int)) = true := by rw [h1]; simp
          have t2 : ((y : Int) == (b : Int)) = false := by rw [beq_eq_false_iff_ne]; omega
          clear hne h1 h2
          go_wp2
          go_round
          case rel => exact ⟨k + 1, x, y + 1, by omega, by go_num, rfl, by go_num, HX', hx, hbd.2⟩
          case measure => simp [intOf]; omega
        · have t1 : ((x : Int) == (a : Int)) = false := by rw [beq_eq_false_iff_ne]; omega
          clear hne h1
          go_wp2
          go_round
          case rel => exact ⟨k + 1, x, y + 1, by omega, by go_num, rfl, by go_num, HX', hx, hbd.2⟩
          case measure => simp [intOf]; omega
      · have HX' : Hid (posL S (k + 1) = (x + 1, 1)) := hide (by rw [hsq, adv_nl hn])
        rw [hsq, adv_nl hn] at hbd
        clear hsq
        by_cases h1 : x = a
        · have h2 : ¬ y = b := fun h2 => hne (by rw [h1, h2])
          have t1 : ((x : Int) == (a : Int)) = true := by rw [h1]; simp
          have t2 : ((y : Int) == (b : Int)) = false := by rw [beq_eq_false_iff_ne]; omega
          clear hne h1 h2
          go_wp2
          go_round
          case rel => exact ⟨k + 1, x + 1, 1, by omega, by go_num, by go_num, rfl, HX', hbd.1, by omega⟩
          case measure => simp [intOf]; omega
        · have t1 : ((x : Int) == (a : Int)) = false := by rw [beq_eq_false_iff_ne]; omega
          clear hne h1
          go_wp2
          go_round
          case rel => exact ⟨k + 1, x + 1, 1, by omega, by go_num, by go_num, rfl, HX', hbd.1, by omega⟩
          case measure => simp [intOf]; omega

theorem wk_one : lexA rightK [112, 40, 88, 44, 45, 49, 41] 0 = .ok [(1, [112], 0), (5, [40], 1), (2, [88], 2), (5, [44], 3), (3, [45, 49], 4), (5, [41], 6)] := by kernel_rfl
theorem wk_two : lexA rightK [97, 10, 32, 63] 0 = .error 3 := by kernel_rfl
theorem wk_pos : posL [97, 10, 32, 63] 3 = (2, 2) := by kernel_rfl
/-- The signs of the first text as they lie. -/
def wkT : List Tm := [(1, ⟨#[112]⟩, 1, 1), (5, ⟨#[40]⟩, 1, 2), (2, ⟨#[88]⟩, 1, 3), (5, ⟨#[44]⟩, 1, 4), (3, ⟨#[45, 49]⟩, 1, 5), (5, ⟨#[41]⟩, 1, 7)]
theorem wk_map : ([(1, [112], 0), (5, [40], 1), (2, [88], 2), (5, [44], 3), (3, [45, 49], 4), (5, [41], 6)] : List Tk).map (tm [112, 40, 88, 44, 45, 49, 41]) = wkT := by kernel_rfl
theorem lex_ok (s : ByteArray) (ts : List Tk) (xs : List Tm) (w : World) (hs : s.size ≤ 20000) (he : Env w) (H : Hid (lexA rightK s.data.toList 0 = .ok ts)) (HX : Hid (ts.map (tm s.data.toList) = xs)) :
    Calls Tryd.prog 8 #[.string s] w fun e w' => (∃ a n c, e = .returned (.tuple #[.slice a n c, .agg #[.int .i64 0, .int .i64 0], .int .i64 0]) ∧ LiesT w' a n c xs) ∧ Below w.heap.size w w' := by
  refine (tokens_any s w hs he).mono ?_
  rintro e w' ⟨h, hb⟩
  unfold LexRes at h
  rw [unhide H] at h
  obtain ⟨a, n, c, rfl, ho⟩ := h
  rw [unhide HX] at ho
  obtain ⟨a', n', c', e1, hl⟩ := ho.slice
  cases e1
  exact ⟨⟨a, n, c, rfl, hl⟩, hb⟩
theorem lex_err (s : ByteArray) (q a b : Nat) (w : World) (hs : s.size ≤ 20000) (he : Env w) (H : Hid (lexA rightK s.data.toList 0 = .error q)) (HP : Hid (posL s.data.toList q = (a, b))) :
    Calls Tryd.prog 8 #[.string s] w fun e w' => e = .returned (.tuple #[.slice none 0 0, .agg #[.int .i64 a, .int .i64 b], .int .i64 6]) ∧ Below w.heap.size w w' := by
  refine (tokens_any s w hs he).mono ?_
  rintro e w' ⟨h, hb⟩
  unfold LexRes at h
  rw [unhide H] at h
  have h' : e = .returned (.tuple #[.slice none 0 0, .agg #[.int .i64 (posL s.data.toList q).1, .int .i64 (posL s.data.toList q).2], .int .i64 6]) := h
  rw [unhide HP] at h'
  exact ⟨h', hb⟩
theorem wk_join : joinT (wkT.take 2) = [112, 32, 40] := by kernel_rfl

set_option maxHeartbeats 4000000 in
set_option maxRecDepth 100000 in
theorem wakes_any (w : World) (he : Env w) :
    Calls Tryd.prog 12 #[] w fun e w' => e = .returned (.bool true) ∧ Below w.heap.size w w' := by
  go_enter Tryd.func12, Tryd.ntmps12
  go_wp2_with fail
  refine (lex_ok ⟨#[112, 40, 88, 44, 45, 49, 41]⟩ _ wkT _ (by decide) he (hide wk_one) (hide wk_map)).mono ?_
  rintro e w1 ⟨⟨a, n, c, rfl, hl⟩, hb1⟩
  have hn : n = 6 := hl.len
  subst hn
  have hcap := hl.cap
  obtain ⟨b, o, ha, hbl, c0, c1, c2, c3⟩ := hl.row.up (i := 4) (show 4 < wkT.length by decide)
  subst ha
  have hbx : Below w1.heap.size w1 (w1.alloc (.cells #[.int .i64 0, .int .i64 0] 25)) := (Below.refl _ _).alloc (Nat.le_refl _) _
  have hb1x := bt hb1 hbx
  have he1 := he.on hb1x
  have hcut := (hl.row.cut 0 2).on hbx
  have d0 := cell_on hbx c0
  have d1 := cell_on hbx c1
  rw [show wkT[4] = (3, ⟨#[45, 49]⟩, 1, 5) from rfl] at d0 d1
  rw [show (wkT.drop 0).take 2 = wkT.take 2 from rfl, Nat.zero_mul, Nat.add_zero] at hcut
  clear c0 c1 c2 c3 hl
  go_wp2_with fail
  generalize w1.alloc (.cells #[.int .i64 0, .int .i64 0] 25) = W1 at hbx hb1x he1 hcut d0 d1 ⊢
  clear hbx
  refine (lex_err ⟨#[97, 10, 32, 63]⟩ 3 2 2 _ (by decide) he1 (hide wk_two) (hide wk_pos)).mono ?_
  rintro e w2 ⟨rfl, hb2⟩
  have hbw := bt hb1x hb2
  have hbx : Below w2.heap.size w2 (w2.alloc (.cells #[.int .i64 2, .int .i64 2] 25)) := (Below.refl _ _).alloc (Nat.le_refl _) _
  have hp := PB.new w2 2 2
  have hbwx := bt hbw hbx
  have hcut2 := (hcut.on hb2).on hbx
  have f0 := cell_on hbx (cell_on hb2 d0)
  have f1 := cell_on hbx (cell_on hb2 d1)
  obtain ⟨p0, p1⟩ : _ ∧ _ := ⟨hp.c0, hp.c1⟩
  clear d0 d1 hcut hb1x hbw hb2 he1
  go_wp2_with fail
  refine (join_any _ 2 c (wkT.take 2) _ hcut2 (by decide) (by decide) (by decide) (by decide)).mono ?_
  rintro e w3 ⟨rfl, hb3⟩
  rw [wk_join]
  go_wp2_with fail
  go_ret
  exact ⟨rfl, bt hbwx hb3⟩
end Go.Proofs.YtaapeleoiclplaaDoor
