/- What atoms.Read, ReadExpr, Parse answer. -/
import Derived.Test.YtcjnhhbcleljmaaGreatDoorAtH
import Derived.Test.YtcjnhhbcleljmaaGreatDoorAtF
import Derived.Test.YtcjnhhbcleljmaaGreatDoorAtG
import Derived.Test.YtcjnhhbcleljmaaGreatDoorAtoH
namespace Go.Proofs.YtcjnhhbcleljmaaGreatDoor.Sb
open Go.RowKit
open V
open Ex (RowO LiesO flatO liesO_own)

theorem rightO_lt {o : Oo} (h : rightO o = true) : LtO o := by
  rcases right_kind h with ⟨hp⟩ | ⟨hp, _⟩
  · have ht := right_lt (term_right h hp)
    rw [← push_same h hp] at ht
    exact ⟨Nat.le_trans ht.1 (by decide), Nat.le_trans ht.2 (by decide)⟩
  · have := (op_mark h hp).1
    rw [this]
    exact ⟨Nat.zero_le _, Nat.zero_le _⟩

set_option maxHeartbeats 2000000 in
set_option maxRecDepth 100000 in
theorem read_arg (a : Option Addr) (n c : Nat) (i : Int) (w : World) (H : i < 0 ∨ (n : Int) < i) :
    Calls Tryz.prog 176 #[.slice a n c, .int .i64 i] w fun e w' => e = .returned (.tuple #[.agg #[.string ⟨#[]⟩, .slice none 0 0], .int .i64 0, .int .i64 1]) ∧ Below w.heap.size w w' := by
  have hb0 : Below w.heap.size w (w.alloc (.cells #[.string ⟨#[]⟩, .slice none 0 0] 46)) := (Below.refl _ _).alloc (Nat.le_refl _) _
  have A0 := AB.new w ⟨#[]⟩ (.slice none 0 0)
  obtain ⟨a0, a1, f0, f1⟩ : _ ∧ _ ∧ _ ∧ _ := ⟨A0.c0, A0.c1, A0.f0, A0.f1⟩
  rcases H with H | H
  · have d1 : decide (i < 0) = true := decide_eq_true H
    clear A0
    go_enter Tryz.func176, Tryz.ntmps176
    go_wp2_with fail
    refine bodyPost_ret (v := .tuple #[.agg #[.string ⟨#[]⟩, .slice none 0 0], .int .i64 0, .int .i64 1]) (by simp [results, Tryz.results176, go_sem, a0, a1]) rfl ?_
    exact ⟨rfl, hb0⟩
  · have d0 : ¬ i < 0 := by omega
    clear A0
    go_enter Tryz.func176, Tryz.ntmps176
    go_wp2_with fail
    refine bodyPost_ret (v := .tuple #[.agg #[.string ⟨#[]⟩, .slice none 0 0], .int .i64 0, .int .i64 1]) (by simp [results, Tryz.results176, go_sem, a0, a1]) rfl ?_
    exact ⟨rfl, hb0⟩

set_option maxHeartbeats 2000000 in
set_option maxRecDepth 100000 in
theorem read_no (a : Option Addr) (n c : Nat) (xs : List Tm) (p q : Nat) (w : World) (he : Env w) (hl : LiesT w a n c xs) (HZ : Hid (∀ x ∈ xs, x.2.1.size ≤ 20000)) (hn2 : n ≤ 19999) (hp : p ≤ n) (H : Hid (readA (xs.map ktm) p = .error q)) :
    Calls Tryz.prog 176 #[.slice a n c, .int .i64 (p : Int)] w fun e w' => e = .returned (.tuple #[.agg #[.string ⟨#[]⟩, .slice none 0 0], .int .i64 q, .int .i64 7]) ∧ Below w.heap.size w w' := by
  have hb0 : Below w.heap.size w (w.alloc (.cells #[.string ⟨#[]⟩, .slice none 0 0] 46)) := (Below.refl _ _).alloc (Nat.le_refl _) _
  have A0 := AB.new w ⟨#[]⟩ (.slice none 0 0)
  have hl0 := hl.on hb0
  have he0 := he.on hb0
  have d0 : ¬ (p : Int) < 0 := by omega
  have d1 : ¬ n < p := by omega
  have hlen : (xs.map ktm).length = n := by rw [List.length_map]; exact hl.len.symm
  obtain ⟨r, hr⟩ : ∃ r, readAt ((xs.map ktm).drop p) p = r := ⟨_, rfl⟩
  have HR := hide hr
  cases r with
  | error e =>
    have hq : e = q := by
      have := unhide H
      rw [readA_none hr] at this
      exact Except.error.inj this
    subst hq
    clear hr H hl he hlen
    obtain ⟨a0, a1, f0, f1⟩ : _ ∧ _ ∧ _ ∧ _ := ⟨A0.c0, A0.c1, A0.f0, A0.f1⟩
    go_enter Tryz.func176, Tryz.ntmps176
    go_wp2_with fail
    refine (readAtom_any a n c xs p _ _ he0 hl0 (unhide HZ) (by omega) hp HR).mono ?_
    rintro e' w1 ⟨h, hb1⟩
    have h' : e' = .returned (.tuple #[.agg #[.string ⟨#[]⟩, .slice none 0 0], .int .i64 e, .bool false]) := h
    subst h'
    have A1 := A0.on hb1
    have hbw := bt hb0 hb1
    obtain ⟨b0, b1, g0, g1⟩ : _ ∧ _ ∧ _ ∧ _ := ⟨A1.c0, A1.c1, A1.f0, A1.f1⟩
    have A3 := (((A1.set0 ⟨#[]⟩).set1 (.slice none 0 0)).set0 ⟨#[]⟩).set1 (.slice none 0 0)
    obtain ⟨r0, r1⟩ : _ ∧ _ := ⟨A3.c0, A3.c1⟩
    clear a0 a1 f0 f1 A0 A1 A3 hl0 he0 h
    go_wp2_with fail
    refine bodyPost_ret (v := .tuple #[.agg #[.string ⟨#[]⟩, .slice none 0 0], .int .i64 e, .int .i64 7]) (by simp [results, Tryz.results176, go_sem, r0, r1]) rfl ?_
    exact ⟨rfl, below2 (below2 hbw (Nat.le_refl _) _ _) (Nat.le_refl _) _ _⟩
  | ok x =>
    obtain ⟨i1, i2, i3, i4⟩ := readAt_right hr
    have h5 : ¬ x.1.2.length ≤ 5 := by
      intro h5
      have := unhide H
      rw [readA_few hr h5] at this
      cases this
    have hq : p = q := by
      have := unhide H
      rw [readA_many hr h5] at this
      exact Except.error.inj this
    subst hq
    obtain ⟨⟨nm, ts⟩, q⟩ := x
    simp only at i1 i2 i3 i4 h5
    rw [hlen] at i3
    clear hr H hl he hlen
    obtain ⟨a0, a1, f0, f1⟩ : _ ∧ _ ∧ _ ∧ _ := ⟨A0.c0, A0.c1, A0.f0, A0.f1⟩
    go_enter Tryz.func176, Tryz.ntmps176
    go_wp2_with fail
    refine (readAtom_any a n c xs p _ _ he0 hl0 (unhide HZ) (by omega) hp HR).mono ?_
    rintro e' w1 ⟨⟨s, a', n', c', rfl, hs, hown⟩, hb1⟩
    simp only at hs hown
    have hne : ∀ g, (Value.slice a' n' c').ownBlock = some g → g ≠ w.heap.size := fun g hg => by have := (hown.lt g hg).1; simp at this; omega
    have own2 := ownsRow_setCell_other (ownsRow_setCell_other hown (a := ⟨w.heap.size, 0, none⟩) (fun e => hne _ e rfl) (.string s)) (a := ⟨w.heap.size, 1, none⟩) (fun e => hne _ e rfl) (.slice a' n' c')
    have hL := lies_row own2
    have A1 := A0.on hb1
    have hbw := bt hb0 hb1
    have A2 := (A1.set0 s).set1 (.slice a' n' c')
    have hbw2 : Below w.heap.size w ((w1.setCell ⟨w.heap.size, 0, none⟩ (.string s)).setCell ⟨w.heap.size, 1, none⟩ (.slice a' n' c')) := below2 hbw (Nat.le_refl _) _ _
    obtain ⟨b0, b1, g0, g1⟩ : _ ∧ _ ∧ _ ∧ _ := ⟨A1.c0, A1.c1, A1.f0, A1.f1⟩
    obtain ⟨y0, y1, h0, h1⟩ : _ ∧ _ ∧ _ ∧ _ := ⟨A2.c0, A2.c1, A2.f0, A2.f1⟩
    clear a0 a1 f0 f1 A0 A1 hl0 hown own2 hb1
    have hs24 : s.size ≤ 200 := by
      have := sym_len (l := nm) (by simp only [nameB, Bool.and_eq_true] at i1; exact i1.1)
      rw [← hs, size_list] at this; omega
    have hRA : rightA s ts = false := by
      rw [right_same, hs]
      simp only [V.rightA, i1, Bool.true_and]
      simp only [decide_eq_false h5, Bool.false_and]
    have F := hide (acheck_any s a' n' c' ts _ hs24 (fun t ht => lt_right (i2 t ht)) hL.row hL.le hL.ge (by have := hL.len; omega))
    rw [hRA] at F
    have HSS := hide hs
    clear i1 i2 hs hRA hs24 h5 hne
    go_wp2_with fail
    clear b0 b1 g0 g1 y0 y1 h0 h1
    generalize (w1.setCell ⟨w.heap.size, 0, none⟩ (.string s)).setCell ⟨w.heap.size, 1, none⟩ (.slice a' n' c') = W2 at F A2 hL hbw2 ⊢
    refine (unhide F).mono ?_
    rintro e' w3 ⟨rfl, hb3⟩
    rw [show chk false = 1 from rfl]
    have A3 := A2.on hb3
    have hbw3 := bt hbw2 hb3
    obtain ⟨b0, b1, g0, g1⟩ : _ ∧ _ ∧ _ ∧ _ := ⟨A3.c0, A3.c1, A3.f0, A3.f1⟩
    have A4 := (A3.set0 ⟨#[]⟩).set1 (.slice none 0 0)
    obtain ⟨r0, r1⟩ : _ ∧ _ := ⟨A4.c0, A4.c1⟩
    clear A2 A3 A4 hL F
    go_wp2_with fail
    refine bodyPost_ret (v := .tuple #[.agg #[.string ⟨#[]⟩, .slice none 0 0], .int .i64 p, .int .i64 7]) (by simp [results, Tryz.results176, go_sem, r0, r1]) rfl ?_
    exact ⟨rfl, below2 hbw3 (Nat.le_refl _) _ _⟩

set_option maxHeartbeats 2000000 in
set_option maxRecDepth 100000 in
theorem read_ok (a : Option Addr) (n c : Nat) (xs : List Tm) (p : Nat) (x : At × Nat) (w : World) (he : Env w) (hl : LiesT w a n c xs) (HZ : Hid (∀ x ∈ xs, x.2.1.size ≤ 20000)) (hn2 : n ≤ 19999) (hp : p ≤ n) (H : Hid (readA (xs.map ktm) p = .ok x)) :
    Calls Tryz.prog 176 #[.slice a n c, .int .i64 (p : Int)] w fun e w' => (∃ (s : ByteArray) (a : Option Addr) (n c : Nat), e = .returned (.tuple #[.agg #[.string s, .slice a n c], .int .i64 x.2, .int .i64 0]) ∧ s.data.toList = x.1.1 ∧ w'.ownsRow w.heap.size 141 4 (.slice a n c) n (flatB x.1.2)) ∧ Below w.heap.size w w' := by
  have hb0 : Below w.heap.size w (w.alloc (.cells #[.string ⟨#[]⟩, .slice none 0 0] 46)) := (Below.refl _ _).alloc (Nat.le_refl _) _
  have A0 := AB.new w ⟨#[]⟩ (.slice none 0 0)
  have hl0 := hl.on hb0
  have he0 := he.on hb0
  have d0 : ¬ (p : Int) < 0 := by omega
  have d1 : ¬ n < p := by omega
  have hlen : (xs.map ktm).length = n := by rw [List.length_map]; exact hl.len.symm
  obtain ⟨r, hr⟩ : ∃ r, readAt ((xs.map ktm).drop p) p = r := ⟨_, rfl⟩
  have HR := hide hr
  cases r with
  | error e =>
    have := unhide H
    rw [readA_none hr] at this
    cases this
  | ok y =>
    obtain ⟨i1, i2, i3, i4⟩ := readAt_right hr
    have h5 : y.1.2.length ≤ 5 := by
      by_cases h5 : y.1.2.length ≤ 5
      · exact h5
      · have := unhide H
        rw [readA_many hr h5] at this
        cases this
    have hq : y = x := by
      have := unhide H
      rw [readA_few hr h5] at this
      exact Except.ok.inj this
    subst hq
    obtain ⟨⟨nm, ts⟩, q⟩ := y
    simp only at i1 i2 i3 i4 h5
    rw [hlen] at i3 i4
    clear hr H hl he hlen
    obtain ⟨a0, a1, f0, f1⟩ : _ ∧ _ ∧ _ ∧ _ := ⟨A0.c0, A0.c1, A0.f0, A0.f1⟩
    go_enter Tryz.func176, Tryz.ntmps176
    go_wp2_with fail
    refine (readAtom_any a n c xs p _ _ he0 hl0 (unhide HZ) (by omega) hp HR).mono ?_
    rintro e' w1 ⟨⟨s, a', n', c', rfl, hs, hown⟩, hb1⟩
    simp only at hs hown
    have hne : ∀ g, (Value.slice a' n' c').ownBlock = some g → g ≠ w.heap.size := fun g hg => by have := (hown.lt g hg).1; simp at this; omega
    have own2 := ownsRow_setCell_other (ownsRow_setCell_other hown (a := ⟨w.heap.size, 0, none⟩) (fun e => hne _ e rfl) (.string s)) (a := ⟨w.heap.size, 1, none⟩) (fun e => hne _ e rfl) (.slice a' n' c')
    have hL := lies_row own2
    have A1 := A0.on hb1
    have hbw := bt hb0 hb1
    have A2 := (A1.set0 s).set1 (.slice a' n' c')
    have hbw2 : Below w.heap.size w ((w1.setCell ⟨w.heap.size, 0, none⟩ (.string s)).setCell ⟨w.heap.size, 1, none⟩ (.slice a' n' c')) := below2 hbw (Nat.le_refl _) _ _
    obtain ⟨b0, b1, g0, g1⟩ : _ ∧ _ ∧ _ ∧ _ := ⟨A1.c0, A1.c1, A1.f0, A1.f1⟩
    obtain ⟨y0, y1, h0, h1⟩ : _ ∧ _ ∧ _ ∧ _ := ⟨A2.c0, A2.c1, A2.f0, A2.f1⟩
    clear a0 a1 f0 f1 A0 A1 hl0 hown hb1
    have hs24 : s.size ≤ 200 := by
      have := sym_len (l := nm) (by simp only [nameB, Bool.and_eq_true] at i1; exact i1.1)
      rw [← hs, size_list] at this; omega
    have hRA : rightA s ts = true := by
      rw [right_same, hs]
      simp only [V.rightA, i1, Bool.true_and]
      simp only [decide_eq_true h5, Bool.true_and, List.all_eq_true]; exact i2
    have F := hide (acheck_any s a' n' c' ts _ hs24 (fun t ht => lt_right (i2 t ht)) hL.row hL.le hL.ge (by have := hL.len; omega))
    rw [hRA] at F
    have HSS := hide hs
    clear i1 i2 hs hRA hs24 h5
    go_wp2_with fail
    clear b0 b1 g0 g1 y0 y1 h0 h1
    generalize (w1.setCell ⟨w.heap.size, 0, none⟩ (.string s)).setCell ⟨w.heap.size, 1, none⟩ (.slice a' n' c') = W2 at F A2 hL hbw2 own2 ⊢
    refine (unhide F).mono ?_
    rintro e' w3 ⟨rfl, hb3⟩
    rw [show chk true = 0 from rfl]
    have A3 := A2.on hb3
    have hbw3 := bt hbw2 hb3
    obtain ⟨b0, b1, g0, g1⟩ : _ ∧ _ ∧ _ ∧ _ := ⟨A3.c0, A3.c1, A3.f0, A3.f1⟩
    have own3 := own_on own2 hb3
    have own4 := ownsRow_setCell_other (ownsRow_setCell_other own3 (a := ⟨w.heap.size, 0, none⟩) (fun e => hne _ e rfl) (.string s)) (a := ⟨w.heap.size, 1, none⟩) (fun e => hne _ e rfl) (.slice a' n' c')
    have A4 := (A3.set0 s).set1 (.slice a' n' c')
    obtain ⟨r0, r1⟩ : _ ∧ _ := ⟨A4.c0, A4.c1⟩
    clear A2 A3 A4 hL F own2 own3 hne
    go_wp2_with fail
    refine bodyPost_ret (v := .tuple #[.agg #[.string s, .slice a' n' c'], .int .i64 q, .int .i64 0]) (by simp [results, Tryz.results176, go_sem, r0, r1]) rfl ?_
    exact ⟨⟨s, a', n', c', rfl, unhide HSS, own_mono own4 (by simp)⟩, below2 hbw3 (Nat.le_refl _) _ _⟩

set_option maxHeartbeats 2000000 in
set_option maxRecDepth 100000 in
theorem rexpr_arg (a : Option Addr) (n c : Nat) (i : Int) (w : World) (H : i < 0 ∨ (n : Int) < i) :
    Calls Tryz.prog 158 #[.slice a n c, .int .i64 i] w fun e w' => e = .returned (.tuple #[.slice none 0 0, .int .i64 0, .int .i64 1]) ∧ Below w.heap.size w w' := by
  rcases H with H | H
  · have d1 : decide (i < 0) = true := decide_eq_true H
    go_enter Tryz.func158, Tryz.ntmps158
    go_wp2_with fail
    refine bodyPost_ret (v := .tuple #[.slice none 0 0, .int .i64 0, .int .i64 1]) (by simp [results, Tryz.results158, go_sem]) rfl ?_
    exact ⟨rfl, Below.refl _ _⟩
  · have d0 : ¬ i < 0 := by omega
    go_enter Tryz.func158, Tryz.ntmps158
    go_wp2_with fail
    refine bodyPost_ret (v := .tuple #[.slice none 0 0, .int .i64 0, .int .i64 1]) (by simp [results, Tryz.results158, go_sem]) rfl ?_
    exact ⟨rfl, Below.refl _ _⟩

set_option maxHeartbeats 2000000 in
set_option maxRecDepth 100000 in
theorem rexpr_no (a : Option Addr) (n c : Nat) (xs : List Tm) (p q : Nat) (w : World) (he : Env w) (hl : LiesT w a n c xs) (HZ : Hid (∀ x ∈ xs, x.2.1.size ≤ 20000)) (hn2 : n ≤ 19999) (hp : p ≤ n) (H : Hid (readE (xs.map ktm) p = .error q)) :
    Calls Tryz.prog 158 #[.slice a n c, .int .i64 (p : Int)] w fun e w' => e = .returned (.tuple #[.slice none 0 0, .int .i64 q, .int .i64 7]) ∧ Below w.heap.size w w' := by
  have d0 : ¬ (p : Int) < 0 := by omega
  have d1 : ¬ n < p := by omega
  have hlen : (xs.map ktm).length = n := by rw [List.length_map]; exact hl.len.symm
  obtain ⟨r, hr⟩ : ∃ r, readX 15 ((xs.map ktm).drop p) p = r := ⟨_, rfl⟩
  have F := hide (readPart_any a n c xs HZ hn2 15 p 0 (p : Int) 0 r w he hl hp rfl (hide rfl) (hide rfl) (hide hr))
  have HE := unhide H
  rcases hrr : r with (_ | e) | ⟨l, rest, q'⟩
  · subst hrr
    rw [readE_deep hr] at HE
    have hq : p = q := Except.error.inj HE
    subst hq
    clear hr H HE hl he hlen
    go_enter Tryz.func158, Tryz.ntmps158
    go_wp2_with fail
    refine (unhide F).mono ?_
    rintro e' w1 ⟨⟨i, rfl⟩, hb1⟩
    clear F
    go_wp2_with fail
    refine bodyPost_ret (v := .tuple #[.slice none 0 0, .int .i64 p, .int .i64 7]) (by simp [results, Tryz.results158, go_sem]) rfl ?_
    exact ⟨rfl, hb1⟩
  · subst hrr
    rw [readE_none hr] at HE
    have hq : e = q := Except.error.inj HE
    subst hq
    clear hr H HE hl he hlen
    go_enter Tryz.func158, Tryz.ntmps158
    go_wp2_with fail
    refine (unhide F).mono ?_
    rintro e' w1 ⟨h, hb1⟩
    have h' : e' = .returned (.tuple #[.slice none 0 0, .int .i64 e, .int .i64 7]) := h
    subst h'
    clear F h
    go_wp2_with fail
    refine bodyPost_ret (v := .tuple #[.slice none 0 0, .int .i64 e, .int .i64 7]) (by simp [results, Tryz.results158, go_sem]) rfl ?_
    exact ⟨rfl, hb1⟩
  · subst hrr
    have h15 : ¬ l.length ≤ 15 := by
      intro h5
      rw [readE_few hr h5] at HE
      cases HE
    rw [readE_many hr h15] at HE
    have hq : p = q := Except.error.inj HE
    subst hq
    obtain ⟨w1', w2'⟩ := readX_whole hr
    have hrs := readX_rest 15 hr
    simp only at w1' w2' hrs
    rw [decide_eq_false h15] at w1'
    have hll : l.length ≤ 19999 := by have := hrs.2.2.1; have := hrs.2.2.2; omega
    have HB := hide w1'
    have HL := hide (fun o ho => rightO_lt (w2' o ho))
    clear hr H HE hl he hlen w1' w2' hrs h15
    go_enter Tryz.func158, Tryz.ntmps158
    go_wp2_with fail
    refine (unhide F).mono ?_
    rintro e' w1 ⟨⟨a1, n1, c1, rfl, ho1⟩, hb1⟩
    have hl1 := liesO_own ho1
    clear ho1
    simp only at hl1
    clear F
    have hn1 : n1 ≤ 20000 := by have := hl1.len; omega
    go_wp2_with fail
    have hc := echeck_any a1 n1 c1 l w1 hl1.row hl1.le hl1.ge (unhide HL) hn1
    rw [unhide HB] at hc
    refine hc.mono ?_
    rintro e' w2 ⟨rfl, hb2⟩
    rw [show chk false = 1 from rfl]
    clear hc hl1
    go_wp2_with fail
    refine bodyPost_ret (v := .tuple #[.slice none 0 0, .int .i64 p, .int .i64 7]) (by simp [results, Tryz.results158, go_sem]) rfl ?_
    exact ⟨rfl, bt hb1 hb2⟩

set_option maxHeartbeats 2000000 in
set_option maxRecDepth 100000 in
theorem rexpr_ok (a : Option Addr) (n c : Nat) (xs : List Tm) (p : Nat) (x : List Oo × Nat) (w : World) (he : Env w) (hl : LiesT w a n c xs) (HZ : Hid (∀ x ∈ xs, x.2.1.size ≤ 20000)) (hn2 : n ≤ 19999) (hp : p ≤ n) (H : Hid (readE (xs.map ktm) p = .ok x)) :
    Calls Tryz.prog 158 #[.slice a n c, .int .i64 (p : Int)] w fun e w' => (∃ (a : Option Addr) (n c : Nat), e = .returned (.tuple #[.slice a n c, .int .i64 x.2, .int .i64 0]) ∧ w'.ownsRow w.heap.size 144 5 (.slice a n c) n (flatO x.1)) ∧ Below w.heap.size w w' := by
  have d0 : ¬ (p : Int) < 0 := by omega
  have d1 : ¬ n < p := by omega
  have hlen : (xs.map ktm).length = n := by rw [List.length_map]; exact hl.len.symm
  obtain ⟨r, hr⟩ : ∃ r, readX 15 ((xs.map ktm).drop p) p = r := ⟨_, rfl⟩
  have F := hide (readPart_any a n c xs HZ hn2 15 p 0 (p : Int) 0 r w he hl hp rfl (hide rfl) (hide rfl) (hide hr))
  have HE := unhide H
  rcases hrr : r with (_ | e) | ⟨l, rest, q'⟩
  · subst hrr
    rw [readE_deep hr] at HE
    cases HE
  · subst hrr
    rw [readE_none hr] at HE
    cases HE
  · subst hrr
    have h15 : l.length ≤ 15 := by
      by_cases h5 : l.length ≤ 15
      · exact h5
      · rw [readE_many hr h5] at HE
        cases HE
    rw [readE_few hr h15] at HE
    have hq : (l, q') = x := Except.ok.inj HE
    subst hq
    obtain ⟨w1', w2'⟩ := readX_whole hr
    have hrs := readX_rest 15 hr
    simp only at w1' w2' hrs
    rw [decide_eq_true h15] at w1'
    have hqn : q' ≤ n := by have := hrs.2.2.1; omega
    have HB := hide w1'
    have HL := hide (fun o ho => rightO_lt (w2' o ho))
    clear hr H HE hl he hlen w1' w2' hrs
    go_enter Tryz.func158, Tryz.ntmps158
    go_wp2_with fail
    refine (unhide F).mono ?_
    rintro e' w1 ⟨⟨a1, n1, c1, rfl, ho1⟩, hb1⟩
    have hl1 := liesO_own ho1
    simp only at hl1
    clear F
    have hn1 : n1 ≤ 20000 := by have := hl1.len; omega
    go_wp2_with fail
    have hc := echeck_any a1 n1 c1 l w1 hl1.row hl1.le hl1.ge (unhide HL) hn1
    rw [unhide HB] at hc
    refine hc.mono ?_
    rintro e' w2 ⟨rfl, hb2⟩
    rw [show chk true = 0 from rfl]
    have ho2 := own_on ho1 hb2
    clear ho1
    clear hc hl1
    go_wp2_with fail
    refine bodyPost_ret (v := .tuple #[.slice a1 n1 c1, .int .i64 q', .int .i64 0]) (by simp [results, Tryz.results158, go_sem]) rfl ?_
    exact ⟨⟨a1, n1, c1, rfl, ho2⟩, bt hb1 hb2⟩
end Go.Proofs.YtcjnhhbcleljmaaGreatDoor.Sb
