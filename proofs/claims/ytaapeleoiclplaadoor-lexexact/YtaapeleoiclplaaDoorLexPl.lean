/- The walk of constablelaw09.LexPlaces: it answers true, whatever the text. -/
import Derived.Test.YtaapeleoiclplaaDoorLexO
import Derived.Test.YtaapeleoiclplaaDoorLexL
namespace Go.Proofs.YtaapeleoiclplaaDoor
open Go.RowKit
open V

/-- What Tokens answers of a right text, its signs with their places known. -/
theorem lex_tm (s : ByteArray) (ts : List Tk) (w : World) (hs : s.size ≤ 20000) (he : Env w) (H : Hid (lexA rightK s.data.toList 0 = .ok ts)) :
    Calls Tryd.prog 8 #[.string s] w fun e w' => (∃ a c, e = .returned (.tuple #[.slice a ts.length c, .agg #[.int .i64 0, .int .i64 0], .int .i64 0]) ∧ LiesT w' a ts.length c (ts.map (tm s.data.toList))) ∧ Below w.heap.size w w' := by
  refine (lex_ok s ts _ w hs he H (hide rfl)).mono ?_
  rintro e w' ⟨⟨a, n, c, rfl, hl⟩, hb⟩
  have hn : n = ts.length := by rw [hl.len, List.length_map]
  subst hn
  exact ⟨⟨a, c, rfl, hl⟩, hb⟩
theorem lex_spots (s : ByteArray) : (∀ ts, lexA rightK s.data.toList 0 = .ok ts → (∀ t ∈ ts, V.Good rightK t) ∧ Spots s.data.toList 0 ts) ∧ (∀ e, lexA rightK s.data.toList 0 = .error e → e < s.size) := by
  have h := lex_all (R := rightK) (s := s.data.toList) s.data.toList.length (q := 0) (Nat.zero_le _) (by omega)
  rw [List.drop_zero] at h
  refine ⟨h.1, fun e he => ?_⟩
  have := (h.2 e he).2
  rw [size_list] at this; exact this

set_option maxHeartbeats 8000000 in
set_option maxRecDepth 100000 in
theorem places_law (s : ByteArray) (w : World) (he : Env w) :
    Calls Tryd.prog 5 #[.string s] w fun e w' => e = .returned (.bool true) ∧ Below w.heap.size w w' := by
  by_cases h15 : 1500 < s.size
  · have d0 : decide ((1500 : Int) < (s.size : Int)) = true := decide_eq_true (by omega)
    clear h15
    go_enter Tryd.func5, Tryd.ntmps5
    go_wp2_with fail
    go_ret
    exact ⟨rfl, Below.refl _ _⟩
  have d0 : decide ((1500 : Int) < (s.size : Int)) = false := decide_eq_false (by omega)
  have hs : s.size ≤ 20000 := by omega
  have hsp := lex_spots s
  cases hlx : lexA rightK s.data.toList 0 with
  | error q =>
    have hq := hsp.2 q hlx
    have HX := hide hlx
    obtain ⟨a, b, hp⟩ : ∃ a b, posL s.data.toList q = (a, b) := ⟨_, _, rfl⟩
    have HP := hide hp
    have h1 := posL_one s.data.toList q
    rw [hp] at h1
    have t1 : decide ((1 : Int) ≤ (a : Int)) = true := decide_eq_true (by omega)
    have t2 : decide ((1 : Int) ≤ (b : Int)) = true := decide_eq_true (by omega)
    have t3 : decide ((0 : Int) ≤ (q : Int)) = true := decide_eq_true (by omega)
    clear hlx hp h1 hsp
    go_enter Tryd.func5, Tryd.ntmps5
    go_wp2_with fail
    refine (lex_err s q a b _ hs he HX HP).mono ?_
    rintro e w1 ⟨rfl, hb1⟩
    have hp := PB.new w1 a b
    have hbx := bt hb1 ((Below.refl _ _).alloc (Nat.le_refl _) (.cells #[.int .i64 a, .int .i64 b] 25))
    obtain ⟨p0, p1⟩ : _ ∧ _ := ⟨hp.c0, hp.c1⟩
    go_wp2_with fail
    go_wp2_with (first
      | (go_at_call 13; refine (place_any s q a b _ hs hq HP).mono ?_; rintro e w2 ⟨rfl, hb2⟩; have hbw := bt hbx hb2)
      | (go_at_call 12; refine (wakes_any _ (he.on hbw)).mono ?_; rintro e w3 ⟨rfl, hb3⟩))
    go_ret
    exact ⟨rfl, bt hbw hb3⟩
  | ok ts =>
    obtain ⟨-, hS⟩ := hsp.1 ts hlx
    have HX := hide hlx
    clear hlx hsp
    go_enter Tryd.func5, Tryd.ntmps5
    go_wp2_with fail
    refine (lex_tm s ts _ hs he HX).mono ?_
    rintro e w1 ⟨⟨a, c, rfl, hl⟩, hb1⟩
    have hlx := hl.on ((Below.refl _ _).alloc (Nat.le_refl _) (.cells #[.int .i64 0, .int .i64 0] 25))
    have hbx := bt hb1 ((Below.refl _ _).alloc (Nat.le_refl _) (.cells #[.int .i64 0, .int .i64 0] 25))
    clear hl hb1
    go_wp2_with fail
    generalize w1.alloc (.cells #[.int .i64 0, .int .i64 0] 25) = W at hlx hbx ⊢
    obtain ⟨S, HS⟩ : ∃ S, Hid (s.data.toList = S) := ⟨_, hide rfl⟩
    have HSZ : Hid (S.length = s.size) := hide (by rw [← unhide HS]; simp)
    rw [unhide HS] at hlx hS
    have hts : ts.length ≤ 20000 := by
      have h : ∀ (us : List Tk) (E : Nat), Spots S E us → us.length + E ≤ S.length ∨ us = [] := by
        intro us
        induction us with
        | nil => intro E _; exact Or.inr rfl
        | cons t us ih =>
          intro E h
          obtain ⟨h1, h2, _, h4, h5⟩ := h
          rcases ih _ h5 with h6 | rfl
          · left; simp; omega
          · left; simp; omega
      rcases h ts 0 hS with h | h
      · rw [unhide HSZ] at h; omega
      · rw [h]; simp
    have HSP : Hid (Spots S 0 (ts.drop 0)) := hide hS
    clear hS
    go_loopw [6, 7] (fun l i wr => ∃ (k E : Nat), k ≤ ts.length ∧ i = .int .i64 k ∧ l = .int .i64 ((E : Int) - 1) ∧ E ≤ s.size ∧ Hid (Spots S E (ts.drop k)) ∧ Below W.heap.size W wr) (fun _ i _ => ts.length - (intOf i).toNat)
    case atStart => exact ⟨0, 0, Nat.zero_le _, rfl, rfl, Nat.zero_le _, HSP, Below.refl _ _⟩
    case round =>
      obtain ⟨k, E, hk, rfl, rfl, hE, HK, hbw⟩ := hrel
      by_cases hlt : k < ts.length
      · have hd : ts.drop k = ts[k] :: ts.drop (k + 1) := List.drop_eq_getElem_cons hlt
        have hsp := unhide HK
        rw [hd] at hsp
        obtain ⟨h1, h2, h3, h4, h5⟩ := hsp
        rw [unhide HSZ] at h2
        obtain ⟨b, o, ha, hbl, c0, c1, c2, c3⟩ := (hlx.row.on hbw).up (i := k) (by rw [List.length_map]; exact hlt)
        subst ha
        have hx : (ts.map (tm S))[k]'(by rw [List.length_map]; exact hlt) = tm S ts[k] := by rw [List.getElem_map]
        rw [hx] at c0 c1 c2 c3
        clear hx hd
        generalize ts[k] = t at h1 h2 h3 h4 h5 c0 c1 c2 c3
        obtain ⟨tk, tx, tp⟩ := t
        simp only at h1 h2 h3 h4 h5
        simp only [tm] at c0 c1 c2 c3
        obtain ⟨pa, pb, hpp⟩ : ∃ pa pb, posL S tp = (pa, pb) := ⟨_, _, rfl⟩
        rw [hpp] at c2 c3
        have HP : Hid (posL s.data.toList tp = (pa, pb)) := hide (by rw [unhide HS]; exact hpp)
        obtain ⟨z, hz⟩ : ∃ z : ByteArray, z = ⟨tx.toArray⟩ := ⟨_, rfl⟩
        have hzl : z.data.toList = tx := by rw [hz]
        have hzs : z.size = tx.length := by rw [← size_list, hzl]
        rw [← hz] at c1
        rw [← hzs] at h2 h4 h5
        have hq : tp < s.size := by omega
        have hex : s.extract tp (tp + z.size) = z := by
          refine toList_inj.1 ?_
          rw [ByteArray.toList_eq, ByteArray.toList_eq, ext_mid, unhide HS, hzl, hzs]
          exact h3
        have HN : Hid (Spots S (tp + z.size) (ts.drop (k + 1))) := hide h5
        have htn : ((tp : Int) + (z.size : Int)).toNat = tp + z.size := by omega
        have d1 : decide ((tp : Int) ≤ (E : Int) - 1) = false := decide_eq_false (by omega)
        have d2 : decide ((s.size : Int) < (tp : Int) + (z.size : Int)) = false := decide_eq_false (by omega)
        have iq0 : (0 : Int) ≤ (tp : Int) := by omega
        have iqn : (tp : Int) ≤ (tp : Int) + (z.size : Int) := by omega
        have iqn0 : (0 : Int) ≤ (tp : Int) + (z.size : Int) := by omega
        have iqs : (tp : Int) + (z.size : Int) ≤ (s.size : Int) := by omega
        have hwr := wrap_small ((tp : Int) + (z.size : Int)) (by omega) (by omega)
        have ez : (z.toList != z.toList) = false := by simp
        have kts : (k : Int) < (ts.length : Int) := by omega
        clear h3 h5 hpp hz hzl hzs
        go_wp2_with fail
        refine (place_any s tp pa pb _ hs hq HP).mono ?_
        rintro e w2 ⟨rfl, hb2⟩
        have x1 := cell_on hb2 c1
        clear c0 c1 c2 c3
        go_wp2_with fail
        go_quiet (fail)
        go_wp2_with fail
        go_roundw
        case rel => exact ⟨k + 1, tp + z.size, by omega, by go_num, by go_num, by omega, HN, below_drewN (bt hbw hb2) nq⟩
        case measure => simp [intOf]; omega
      · go_wp2_with (go_at_call 12; refine (wakes_any _ (he.on (bt hbx hbw))).mono ?_; rintro e w3 ⟨rfl, hb3⟩)
        go_ret
        exact ⟨rfl, bt (bt hbx hbw) hb3⟩
end Go.Proofs.YtaapeleoiclplaaDoor
