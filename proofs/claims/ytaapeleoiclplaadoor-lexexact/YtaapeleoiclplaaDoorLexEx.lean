/- The walk of constablelaw09.LexExact: it answers true, whatever the text and the signs. -/
import Derived.Test.YtaapeleoiclplaaDoorLexL
import Derived.Test.YtaapeleoiclplaaDoorLexPl
import Derived.Test.YtaapeleoiclplaaDoorLexJb
import Derived.Laws.AppendOwnNone
namespace Go.Proofs.YtaapeleoiclplaaDoor
open Go.RowKit
open V

theorem eqP_top (a b : Int) (w : World) : (binOp .eql 25 (.agg #[.int .i64 a, .int .i64 b]) (.agg #[.int .i64 a, .int .i64 b])).run Tryd.prog w = .ok (.bool true) w := by
  have u3 := Tryd.underlying3
  have a3 := Tryd.isAgg3
  have z3 := Tryd.sizeOf3
  have hS : Tryd.prog.underlying 25 = some (.struct (Tryd.prog.fieldsOf 25)) := by kernel_rfl
  have hp : Tryd.prog.stoodInHeld 25 = false := by kernel_rfl
  rw [run_eql_struct, show (10000 : Nat) = 9999 + 1 from rfl, run_equalIn_agg w 9999 25 _ _ hS hp]
  simp only [Program.fieldsOf, Tryd.underlying25]
  clear hS hp
  go_simp
theorem refLex_tm (s : ByteArray) (ts : List Tk) (w : World) (hs : s.size ≤ 20000) (H : Hid (lexA rightK s.data.toList 0 = .ok ts)) :
    Calls Tryd.prog 9 #[.string s] w fun e w' => (∃ a c, e = .returned (.tuple #[.slice a ts.length c, .agg #[.int .i64 0, .int .i64 0], .int .i64 0]) ∧ LiesT w' a ts.length c (ts.map (tm s.data.toList))) ∧ Below w.heap.size w w' := by
  refine (refLex_any s w hs).mono ?_
  rintro e w' ⟨h, hb⟩
  unfold LexRes at h
  rw [unhide H] at h
  obtain ⟨a, n, c, rfl, ho⟩ := h
  obtain ⟨a', n', c', e1, hl⟩ := ho.slice
  cases e1
  have hn : n = ts.length := by rw [hl.len, List.length_map]
  subst hn
  exact ⟨⟨a, c, rfl, hl⟩, hb⟩
theorem refLex_err (s : ByteArray) (q a b : Nat) (w : World) (hs : s.size ≤ 20000) (H : Hid (lexA rightK s.data.toList 0 = .error q)) (HP : Hid (posL s.data.toList q = (a, b))) :
    Calls Tryd.prog 9 #[.string s] w fun e w' => e = .returned (.tuple #[.slice none 0 0, .agg #[.int .i64 a, .int .i64 b], .int .i64 6]) ∧ Below w.heap.size w w' := by
  refine (refLex_any s w hs).mono ?_
  rintro e w' ⟨h, hb⟩
  unfold LexRes at h
  rw [unhide H] at h
  have h' : e = .returned (.tuple #[.slice none 0 0, .agg #[.int .i64 (posL s.data.toList q).1, .int .i64 (posL s.data.toList q).2], .int .i64 6]) := h
  rw [unhide HP] at h'
  exact ⟨h', hb⟩
theorem join_bd : ∀ xs : List Tm, (∀ x ∈ xs, x.2.1.size ≤ 200) → (joinT xs).length ≤ 201 * xs.length := by
  have h : ∀ r : List Tm, (∀ x ∈ r, x.2.1.size ≤ 200) → ((r.map (fun y : Tm => 32 :: y.2.1.data.toList)).flatten).length ≤ 201 * r.length := by
    intro r
    induction r with
    | nil => intro _; simp
    | cons x r ih =>
      intro hr
      have h1 := hr x (by simp)
      have h2 := ih (fun y hy => hr y (by simp [hy]))
      simp only [List.map_cons, List.flatten_cons, List.length_append, List.length_cons, size_list]
      omega
  intro xs hx
  cases xs with
  | nil => simp [joinT]
  | cons x r =>
    have h1 := hx x (by simp)
    have h2 := h r (fun y hy => hx y (by simp [hy]))
    simp only [joinT, List.length_append, List.length_cons, size_list]
    omega
theorem rowT_cells {w : World} {ad : Addr} {xs : List Tm} (h : RowT w (some ad) xs) : ∀ j u, (flatT xs)[j]? = some u → w.cell? (ad.add j) = some u := by
  intro j u hu
  rcases h with h | ⟨b, o, ha, hlt, hc⟩
  · subst h; simp [flatT] at hu
  · obtain rfl := Option.some.inj ha
    have hj : j < xs.length * 4 := by
      have := (List.getElem?_eq_some_iff.1 hu).1
      rwa [flatT_len] at this
    have hi : j / 4 < xs.length := by omega
    have hx : xs[j / 4]? = some xs[j / 4] := List.getElem?_eq_getElem hi
    obtain ⟨f0, f1, f2, f3⟩ := flatT_get xs (j / 4) _ hx
    obtain ⟨c0, c1, c2, c3⟩ := hc (j / 4) _ hx
    rw [WideShapes.add_plain]
    have hm : j % 4 = 0 ∨ j % 4 = 1 ∨ j % 4 = 2 ∨ j % 4 = 3 := by omega
    rcases hm with hm | hm | hm | hm
    · have e : j = j / 4 * 4 := by omega
      rw [e] at hu ⊢
      rw [f0] at hu; rw [c0]; exact hu
    · have e : j = j / 4 * 4 + 1 := by omega
      rw [e] at hu ⊢
      rw [f1] at hu; rw [← Nat.add_assoc, c1]; exact hu
    · have e : j = j / 4 * 4 + 2 := by omega
      rw [e] at hu ⊢
      rw [f2] at hu; rw [← Nat.add_assoc, c2]; exact hu
    · have e : j = j / 4 * 4 + 3 := by omega
      rw [e] at hu ⊢
      rw [f3] at hu; rw [← Nat.add_assoc, c3]; exact hu

set_option maxHeartbeats 16000000 in
set_option maxRecDepth 100000 in
theorem exact_law (s : ByteArray) (la : Option Addr) (len lc : Nat) (xs : List Tm) (w : World) (he : Env w) (hl : LiesT w la len lc xs) :
    Calls Tryd.prog 3 #[.string s, .slice la len lc] w fun e w' => e = .returned (.bool true) ∧ Below w.heap.size w w' := by
  by_cases h15 : 1500 < s.size
  · have d0 : decide ((1500 : Int) < (s.size : Int)) = true := decide_eq_true (by omega)
    clear h15
    go_enter Tryd.func3, Tryd.ntmps3
    go_wp2_with fail
    go_ret
    exact ⟨rfl, Below.refl _ _⟩
  have d0 : decide ((1500 : Int) < (s.size : Int)) = false := decide_eq_false (by omega)
  have hs : s.size ≤ 20000 := by omega
  have hnil := hl.nil
  obtain ⟨i0, hi, hz0, hz1, hz2⟩ := info_parts infoT
  go_enter Tryd.func3, Tryd.ntmps3
  go_wp2_with fail
  refine (heavyT_any la len lc xs w hl.row hl.le hl.ge).mono ?_
  rintro e w1 ⟨he1 | ⟨he1, h300, h200⟩, hb1⟩
  · subst he1
    go_wp2_with fail
    go_ret
    exact ⟨rfl, hb1⟩
  subst he1
  have hl1 := hl.on hb1
  have hjb : (joinT xs).length ≤ 60300 := by
    have := join_bd xs h200
    have := hl.len
    omega
  clear h200 hl
  cases la with
  | none =>
    have hc0 := hl1.nil rfl
    have hl0 : len = 0 := by have := hl1.cap; omega
    have hxe : xs = [] := List.eq_nil_of_length_eq_zero (by rw [← hl1.len]; exact hl0)
    subst hc0
    subst hl0
    go_wp2_with (at_builtin; refine wpList_append_own_none rfl _ _ 22 rfl w1.heap.size 30 i0 4 Tryd.underlying22 hi _ 0 [] rfl (World.ownsRow_nil _ _ _ _) rfl ?_)
    subst hxe
    have hL2 := hl1
    have hI2 := liesT_none w1
    have hbw2 := hb1
    clear hl1 hb1 hi hz0 hz1 hz2
    go_wp2_with fail
    cases hlx : lexA rightK s.data.toList 0 with
    | ok ts =>
      have HX := hide hlx
      have hts : ts.length ≤ 20000 := by
        obtain ⟨-, hS⟩ := (lex_spots s).1 ts hlx
        have := spots_len (Nat.zero_le _) hS
        rw [size_list] at this; omega
      clear hlx
      refine (lex_tm s ts _ hs (he.on hbw2) HX).mono ?_
      rintro e w3 ⟨⟨xa, xc, rfl, hx3⟩, hb3⟩
      have hL3 := (hL2.on hb3).on (box_on w3 (.cells #[.int .i64 0, .int .i64 0] 25))
      have hI3 := (hI2.on hb3).on (box_on w3 (.cells #[.int .i64 0, .int .i64 0] 25))
      have hx3b := hx3.on (box_on w3 (.cells #[.int .i64 0, .int .i64 0] 25))
      have hp3 := PB.new w3 0 0
      have hbw3 := alloc_on (bt hbw2 hb3) (.cells #[.int .i64 0, .int .i64 0] 25)
      clear hx3 hb3 hL2 hI2 hbw2
      go_wp2_with fail
      generalize w3.alloc (.cells #[.int .i64 0, .int .i64 0] 25) = W3 at hL3 hI3 hx3b hp3 hbw3 ⊢
      generalize w3.heap.size = b3 at hp3 ⊢
      refine (refLex_tm s ts _ hs HX).mono ?_
      rintro e w4 ⟨⟨ya, yc, rfl, hy4⟩, hb4⟩
      have hL := (hL3.on hb4).on (box_on w4 (.cells #[.int .i64 0, .int .i64 0] 25))
      have hI := (hI3.on hb4).on (box_on w4 (.cells #[.int .i64 0, .int .i64 0] 25))
      have hx := (hx3b.on hb4).on (box_on w4 (.cells #[.int .i64 0, .int .i64 0] 25))
      have hy := hy4.on (box_on w4 (.cells #[.int .i64 0, .int .i64 0] 25))
      have hpa := (hp3.on hb4).on (box_on w4 (.cells #[.int .i64 0, .int .i64 0] 25))
      have hpb := PB.new w4 0 0
      have hbw := alloc_on (bt hbw3 hb4) (.cells #[.int .i64 0, .int .i64 0] 25)
      clear hy4 hb4 hL3 hI3 hx3b hp3 hbw3
      go_wp2_with fail
      generalize w4.alloc (.cells #[.int .i64 0, .int .i64 0] 25) = W5 at hL hI hx hy hpa hpb hbw ⊢
      generalize w4.heap.size = b4 at hpb ⊢
      have HTS := hide hts
      clear hts
      obtain ⟨p0, p1⟩ : _ ∧ _ := ⟨hpa.c0, hpa.c1⟩
      obtain ⟨r0, r1⟩ : _ ∧ _ := ⟨hpb.c0, hpb.c1⟩
      go_wp2_with fail
      go_loopw [12, 13] (fun j i wr => i = .int .i64 0 ∧ j = .string ⟨#[]⟩ ∧ (∃ d, wr = W5.drewN d)) (fun _ _ _ => 0)
      case atStart => exact ⟨rfl, rfl, 0, rfl⟩
      case round =>
        obtain ⟨rfl, rfl, d, rfl⟩ := hrel
        have HJ' : Hid ((⟨#[]⟩ : ByteArray).data.toList = joinT []) := hide rfl
        have hbd : Below W5.heap.size W5 (W5.drewN d) := below_drewN (Below.refl _ _) d
        have hL6 := hL.on hbd
        have hI6 := hI.on hbd
        have hx6 := hx.on hbd
        have hy6 := hy.on hbd
        have hpa6 := hpa.on hbd
        have hpb6 := hpb.on hbd
        have hbw6 := bt hbw hbd
        clear hL hI hx hy hpa hpb hbw hbd p0 p1 r0 r1
        generalize W5.drewN d = W6 at hL6 hI6 hx6 hy6 hpa6 hpb6 hbw6 ⊢
        obtain ⟨p0, p1⟩ : _ ∧ _ := ⟨hpa6.c0, hpa6.c1⟩
        obtain ⟨r0, r1⟩ : _ ∧ _ := ⟨hpb6.c0, hpb6.c1⟩
        have hE := eqP_top 0 0
        have hj6 : (joinT []).length ≤ 1000000 := by decide
        have h3k : 0 ≤ 20000 := by omega
        go_wp2_with fail
        refine (keepT_any xa ya (ts.length) (ts.length) xc yc (ts.map (tm s.data.toList)) (ts.map (tm s.data.toList)) _ hx6.row hy6.row hx6.le hx6.ge hy6.le hy6.ge (unhide HTS)).mono ?_
        rintro e w7 ⟨rfl, hb7⟩
        rw [decide_eq_true rfl]
        have hI7 := hI6.on hb7
        have hL7 := hL6.on hb7
        have hbw7 := bt hbw6 hb7
        clear hI6 hL6 hx6 hy6 hpa6 hpb6 hbw6 hb7 p0 p1 r0 r1 hE
        go_wp2_with fail
        refine (join_q none 0 0 [] ⟨#[]⟩ _ hI7 hj6 h3k HJ').mono ?_
        rintro e w8 ⟨rfl, hb8⟩
        have hI8 := hI7.on hb8
        have hL8 := hL7.on hb8
        have hbw8 := bt hbw7 hb8
        clear hI7 hL7 hbw7 hb8
        go_wp2_with fail
        refine (keepT_any none none 0 0 0 0 [] [] _ hI8.row hL8.row hI8.le hI8.ge hL8.le hL8.ge h3k).mono ?_
        rintro e w9 ⟨rfl, hb9⟩
        rw [decide_eq_true rfl]
        have hbw9 := bt hbw8 hb9
        clear hI8 hL8 hbw8 hb9
        go_wp2_with (go_at_call 12; refine (wakes_any _ (he.on hbw9)).mono ?_; rintro e w10 ⟨rfl, hb10⟩)
        go_ret
        exact ⟨rfl, bt hbw9 hb10⟩
    | error q =>
      have HX := hide hlx
      obtain ⟨qa, qb, hp⟩ : ∃ qa qb, posL s.data.toList q = (qa, qb) := ⟨_, _, rfl⟩
      have HP := hide hp
      clear hlx hp
      refine (lex_err s q qa qb _ hs (he.on hbw2) HX HP).mono ?_
      rintro e w3 ⟨rfl, hb3⟩
      have hL3 := (hL2.on hb3).on (box_on w3 (.cells #[.int .i64 qa, .int .i64 qb] 25))
      have hI3 := (hI2.on hb3).on (box_on w3 (.cells #[.int .i64 qa, .int .i64 qb] 25))
      have hp3 := PB.new w3 qa qb
      have hbw3 := alloc_on (bt hbw2 hb3) (.cells #[.int .i64 qa, .int .i64 qb] 25)
      clear hb3 hL2 hI2 hbw2
      go_wp2_with fail
      generalize w3.alloc (.cells #[.int .i64 (qa : Int), .int .i64 (qb : Int)] 25) = W3 at hL3 hI3 hp3 hbw3 ⊢
      generalize w3.heap.size = b3 at hp3 ⊢
      refine (refLex_err s q qa qb _ hs HX HP).mono ?_
      rintro e w4 ⟨rfl, hb4⟩
      have hL := (hL3.on hb4).on (box_on w4 (.cells #[.int .i64 qa, .int .i64 qb] 25))
      have hI := (hI3.on hb4).on (box_on w4 (.cells #[.int .i64 qa, .int .i64 qb] 25))
      have hx := liesT_none (w4.alloc (.cells #[.int .i64 (qa : Int), .int .i64 (qb : Int)] 25))
      have hy := liesT_none (w4.alloc (.cells #[.int .i64 (qa : Int), .int .i64 (qb : Int)] 25))
      have hpa := (hp3.on hb4).on (box_on w4 (.cells #[.int .i64 qa, .int .i64 qb] 25))
      have hpb := PB.new w4 qa qb
      have hbw := alloc_on (bt hbw3 hb4) (.cells #[.int .i64 qa, .int .i64 qb] 25)
      clear hb4 hL3 hI3 hp3 hbw3
      go_wp2_with fail
      generalize w4.alloc (.cells #[.int .i64 (qa : Int), .int .i64 (qb : Int)] 25) = W5 at hL hI hx hy hpa hpb hbw ⊢
      generalize w4.heap.size = b4 at hpb ⊢
      obtain ⟨p0, p1⟩ : _ ∧ _ := ⟨hpa.c0, hpa.c1⟩
      obtain ⟨r0, r1⟩ : _ ∧ _ := ⟨hpb.c0, hpb.c1⟩
      go_wp2_with fail
      go_loopw [12, 13] (fun j i wr => i = .int .i64 0 ∧ j = .string ⟨#[]⟩ ∧ (∃ d, wr = W5.drewN d)) (fun _ _ _ => 0)
      case atStart => exact ⟨rfl, rfl, 0, rfl⟩
      case round =>
        obtain ⟨rfl, rfl, d, rfl⟩ := hrel
        have HJ' : Hid ((⟨#[]⟩ : ByteArray).data.toList = joinT []) := hide rfl
        have hbd : Below W5.heap.size W5 (W5.drewN d) := below_drewN (Below.refl _ _) d
        have hL6 := hL.on hbd
        have hI6 := hI.on hbd
        have hx6 := hx.on hbd
        have hy6 := hy.on hbd
        have hpa6 := hpa.on hbd
        have hpb6 := hpb.on hbd
        have hbw6 := bt hbw hbd
        clear hL hI hx hy hpa hpb hbw hbd p0 p1 r0 r1
        generalize W5.drewN d = W6 at hL6 hI6 hx6 hy6 hpa6 hpb6 hbw6 ⊢
        obtain ⟨p0, p1⟩ : _ ∧ _ := ⟨hpa6.c0, hpa6.c1⟩
        obtain ⟨r0, r1⟩ : _ ∧ _ := ⟨hpb6.c0, hpb6.c1⟩
        have hE := eqP_top qa qb
        have hj6 : (joinT []).length ≤ 1000000 := by decide
        have h3k : 0 ≤ 20000 := by omega
        go_wp2_with fail
        refine (keepT_any none none (0) (0) 0 0 ([]) ([]) _ hx6.row hy6.row hx6.le hx6.ge hy6.le hy6.ge (by omega)).mono ?_
        rintro e w7 ⟨rfl, hb7⟩
        rw [decide_eq_true rfl]
        have hI7 := hI6.on hb7
        have hL7 := hL6.on hb7
        have hbw7 := bt hbw6 hb7
        clear hI6 hL6 hx6 hy6 hpa6 hpb6 hbw6 hb7 p0 p1 r0 r1 hE
        go_wp2_with fail
        refine (join_q none 0 0 [] ⟨#[]⟩ _ hI7 hj6 h3k HJ').mono ?_
        rintro e w8 ⟨rfl, hb8⟩
        have hI8 := hI7.on hb8
        have hL8 := hL7.on hb8
        have hbw8 := bt hbw7 hb8
        clear hI7 hL7 hbw7 hb8
        go_wp2_with fail
        refine (keepT_any none none 0 0 0 0 [] [] _ hI8.row hL8.row hI8.le hI8.ge hL8.le hL8.ge h3k).mono ?_
        rintro e w9 ⟨rfl, hb9⟩
        rw [decide_eq_true rfl]
        have hbw9 := bt hbw8 hb9
        clear hI8 hL8 hbw8 hb9
        go_wp2_with (go_at_call 12; refine (wakes_any _ (he.on hbw9)).mono ?_; rintro e w10 ⟨rfl, hb10⟩)
        go_ret
        exact ⟨rfl, bt hbw9 hb10⟩
  | some ad =>
    have hcs := hide (rowT_cells hl1.row)
    have hfl := hide (flatT_len xs)
    have hll := hide hl1.len
    go_wp2_with (at_builtin; refine wpList_append_own_wide _ rfl _ _ 22 rfl w1.heap.size 30 i0 (.agg #[.int .i64 0, .string ⟨#[]⟩, .int .i64 0, .int .i64 0]) 4 40 Tryd.underlying22 hi hz0 hz1 hz2 rfl (by decide) _ 0 [] rfl (World.ownsRow_nil _ _ _ _) ad len lc (flatT xs) rfl ?c0 ?c1 ?c2 ?c3 ?c4 ?c5 ?_)
    case c0 => rw [unhide hfl, unhide hll]
    case c1 => exact unhide hcs
    case c2 => exact flatT_oneCell xs
    case c3 => unfold maxLen; omega
    case c4 => omega
    case c5 => exact Nat.le_refl _
    intro v' w2 hown2 hgrow hnil2
    have hown2' : OwnT w2 w1.heap.size v' xs := by
      unfold OwnT
      rw [← unhide hll]
      exact hown2
    obtain ⟨ia, inn, ic, rfl, hI2⟩ := hown2'.slice
    have hin : len = inn := (unhide hll).trans hI2.len.symm
    subst hin
    have hb2 := (Below.refl w1.heap.size w1).grown hgrow (Nat.le_refl _) (fun m hm => by cases hm)
    have hL2 := hl1.on hb2
    have hbw2 := bt hb1 hb2
    clear hgrow hnil2 hcs hown2 hown2' hfl hll hl1 hb1 hb2 hi hz0 hz1 hz2
    go_wp2_with fail
    cases hlx : lexA rightK s.data.toList 0 with
    | ok ts =>
      have HX := hide hlx
      have hts : ts.length ≤ 20000 := by
        obtain ⟨-, hS⟩ := (lex_spots s).1 ts hlx
        have := spots_len (Nat.zero_le _) hS
        rw [size_list] at this; omega
      clear hlx
      refine (lex_tm s ts _ hs (he.on hbw2) HX).mono ?_
      rintro e w3 ⟨⟨xa, xc, rfl, hx3⟩, hb3⟩
      have hL3 := (hL2.on hb3).on (box_on w3 (.cells #[.int .i64 0, .int .i64 0] 25))
      have hI3 := (hI2.on hb3).on (box_on w3 (.cells #[.int .i64 0, .int .i64 0] 25))
      have hx3b := hx3.on (box_on w3 (.cells #[.int .i64 0, .int .i64 0] 25))
      have hp3 := PB.new w3 0 0
      have hbw3 := alloc_on (bt hbw2 hb3) (.cells #[.int .i64 0, .int .i64 0] 25)
      clear hx3 hb3 hL2 hI2 hbw2
      go_wp2_with fail
      generalize w3.alloc (.cells #[.int .i64 0, .int .i64 0] 25) = W3 at hL3 hI3 hx3b hp3 hbw3 ⊢
      generalize w3.heap.size = b3 at hp3 ⊢
      refine (refLex_tm s ts _ hs HX).mono ?_
      rintro e w4 ⟨⟨ya, yc, rfl, hy4⟩, hb4⟩
      have hL := (hL3.on hb4).on (box_on w4 (.cells #[.int .i64 0, .int .i64 0] 25))
      have hI := (hI3.on hb4).on (box_on w4 (.cells #[.int .i64 0, .int .i64 0] 25))
      have hx := (hx3b.on hb4).on (box_on w4 (.cells #[.int .i64 0, .int .i64 0] 25))
      have hy := hy4.on (box_on w4 (.cells #[.int .i64 0, .int .i64 0] 25))
      have hpa := (hp3.on hb4).on (box_on w4 (.cells #[.int .i64 0, .int .i64 0] 25))
      have hpb := PB.new w4 0 0
      have hbw := alloc_on (bt hbw3 hb4) (.cells #[.int .i64 0, .int .i64 0] 25)
      clear hy4 hb4 hL3 hI3 hx3b hp3 hbw3
      go_wp2_with fail
      generalize w4.alloc (.cells #[.int .i64 0, .int .i64 0] 25) = W5 at hL hI hx hy hpa hpb hbw ⊢
      generalize w4.heap.size = b4 at hpb ⊢
      have HTS := hide hts
      clear hts
      obtain ⟨p0, p1⟩ : _ ∧ _ := ⟨hpa.c0, hpa.c1⟩
      obtain ⟨r0, r1⟩ : _ ∧ _ := ⟨hpb.c0, hpb.c1⟩
      go_wp2_with fail
      go_loopw [12, 13] (fun j i wr => ∃ (k : Nat) (jt : ByteArray), k ≤ len ∧ i = .int .i64 k ∧ j = .string jt ∧ Hid (jt.data.toList = joinT (xs.take k)) ∧ jt.size ≤ 60300 ∧ (∃ d, wr = W5.drewN d)) (fun _ i _ => len - (intOf i).toNat)
      case atStart => exact ⟨0, ⟨#[]⟩, Nat.zero_le _, rfl, rfl, hide rfl, by decide, 0, rfl⟩
      case round =>
        obtain ⟨k, jt, hk, rfl, rfl, HJ, hjt, d, rfl⟩ := hrel
        by_cases hlt : k < len
        · have hkx : k < xs.length := by have := hL.len; omega
          have l1 : decide ((k : Int) < (len : Int)) = true := decide_eq_true (by omega)
          have l2 : (k : Int) < (len : Int) := by omega
          obtain ⟨b, o, hb0, hbl, c0, c1, c2, c3⟩ := hL.row.up (i := k) hkx
          obtain rfl := Option.some.inj hb0
          clear c0 c2 c3
          have hc1' := cell_on (below_drewN (Below.refl _ _) d) c1
          have HT : Hid (joinT (xs.take (k + 1)) = joinT (xs.take k) ++ ((if k = 0 then [] else [32]) ++ xs[k].2.1.data.toList)) := by
            show _ = _
            rw [List.take_succ_eq_append_getElem hkx, joinT_snoc]
            congr 2
            by_cases hk0 : k = 0
            · subst hk0; simp
            · have hne : ¬ xs.take k = [] := by
                intro e
                have := congrArg List.length e
                rw [List.length_take, List.length_nil] at this; omega
              rw [if_neg hne, if_neg hk0]
          have hle : (joinT (xs.take (k + 1))).length ≤ 60300 := Nat.le_trans (joinT_take_le xs (k + 1)) hjb
          generalize xs[k].2.1 = z at c1 hc1' HT
          by_cases hk0 : k = 0
          · have k1 : decide (0 < (k : Int)) = false := decide_eq_false (by omega)
            have k1' : decide (0 < k) = false := decide_eq_false (by omega)
            have k2 : ¬ 0 < k := by omega
            have HJ' : Hid ((jt ++ z).data.toList = joinT (xs.take (k + 1))) := hide (by rw [data_app2, unhide HJ, unhide HT, if_pos hk0]; rfl)
            have hjz : (jt ++ z).size ≤ 60300 := by rw [← size_list, unhide HJ']; exact hle
            have hjz2 : jt.size + z.size ≤ 60300 := by rw [← size_app2]; exact hjz
            have nb1 : ¬ 9223372036854775807 < jt.size + z.size := by omega
            clear hk0 hle hjz2
            go_wp2_with fail
            go_roundw
            case rel => exact ⟨k + 1, jt ++ z, by omega, by go_num, rfl, HJ', hjz, d, rfl⟩
            case measure => simp [intOf]; omega
          · have k1 : decide (0 < (k : Int)) = true := decide_eq_true (by omega)
            have k1' : decide (0 < k) = true := decide_eq_true (by omega)
            have k2 : 0 < k := by omega
            have HJ' : Hid ((jt ++ ⟨#[32]⟩ ++ z).data.toList = joinT (xs.take (k + 1))) := hide (by rw [data_app2, data_app2, unhide HJ, unhide HT, if_neg hk0]; simp)
            have hjz : (jt ++ ⟨#[32]⟩ ++ z).size ≤ 60300 := by rw [← size_list, unhide HJ']; exact hle
            have h32 : (⟨#[32]⟩ : ByteArray).size = 1 := rfl
            have hjz2 : jt.size + 1 + z.size ≤ 60300 := by
              have := hjz
              rw [size_app2, size_app2, h32] at this; exact this
            have nb1 : ¬ 9223372036854775807 < jt.size + 1 := by omega
            have nb2 : ¬ 9223372036854775807 < jt.size + (⟨#[32]⟩ : ByteArray).size := by rw [h32]; omega
            have nb3 : ¬ 9223372036854775807 < jt.size + 1 + z.size := by omega
            have nb4 : ¬ 9223372036854775807 < (jt ++ (⟨#[32]⟩ : ByteArray)).size + z.size := by rw [size_app2, h32]; omega
            clear hk0 hle hjz2 h32
            go_wp2_with fail
            go_roundw
            case rel => exact ⟨k + 1, jt ++ ⟨#[32]⟩ ++ z, by omega, by go_num, rfl, HJ', hjz, d, rfl⟩
            case measure => simp [intOf]; omega
        · have l1 : decide ((k : Int) < (len : Int)) = false := decide_eq_false (by omega)
          have HJ' : Hid (jt.data.toList = joinT xs) := hide (by rw [unhide HJ, List.take_of_length_le (by have := hL.len; omega)])
          have hbd : Below W5.heap.size W5 (W5.drewN d) := below_drewN (Below.refl _ _) d
          have hL6 := hL.on hbd
          have hI6 := hI.on hbd
          have hx6 := hx.on hbd
          have hy6 := hy.on hbd
          have hpa6 := hpa.on hbd
          have hpb6 := hpb.on hbd
          have hbw6 := bt hbw hbd
          have hln := hL.len
          clear hL hI hx hy hpa hpb hbw hbd p0 p1 r0 r1
          generalize W5.drewN d = W6 at hL6 hI6 hx6 hy6 hpa6 hpb6 hbw6 ⊢
          obtain ⟨p0, p1⟩ : _ ∧ _ := ⟨hpa6.c0, hpa6.c1⟩
          obtain ⟨r0, r1⟩ : _ ∧ _ := ⟨hpb6.c0, hpb6.c1⟩
          have hE := eqP_top 0 0
          have hj6 : (joinT xs).length ≤ 1000000 := by omega
          have h3k : len ≤ 20000 := by omega
          have hjj : (jt.toList == jt.toList) = true := by simp
          clear hln
          go_wp2_with fail
          refine (keepT_any xa ya (ts.length) (ts.length) xc yc (ts.map (tm s.data.toList)) (ts.map (tm s.data.toList)) _ hx6.row hy6.row hx6.le hx6.ge hy6.le hy6.ge (unhide HTS)).mono ?_
          rintro e w7 ⟨rfl, hb7⟩
          rw [decide_eq_true rfl]
          have hI7 := hI6.on hb7
          have hL7 := hL6.on hb7
          have hbw7 := bt hbw6 hb7
          clear hI6 hL6 hx6 hy6 hpa6 hpb6 hbw6 hb7 p0 p1 r0 r1 hE
          go_wp2_with fail
          refine (join_q ia len ic xs jt _ hI7 hj6 h3k HJ').mono ?_
          rintro e w8 ⟨rfl, hb8⟩
          have hI8 := hI7.on hb8
          have hL8 := hL7.on hb8
          have hbw8 := bt hbw7 hb8
          clear hI7 hL7 hbw7 hb8
          go_wp2_with fail
          refine (keepT_any ia (some ad) len len ic lc xs xs _ hI8.row hL8.row hI8.le hI8.ge hL8.le hL8.ge h3k).mono ?_
          rintro e w9 ⟨rfl, hb9⟩
          rw [decide_eq_true rfl]
          have hbw9 := bt hbw8 hb9
          clear hI8 hL8 hbw8 hb9
          go_wp2_with (go_at_call 12; refine (wakes_any _ (he.on hbw9)).mono ?_; rintro e w10 ⟨rfl, hb10⟩)
          go_ret
          exact ⟨rfl, bt hbw9 hb10⟩
    | error q =>
      have HX := hide hlx
      obtain ⟨qa, qb, hp⟩ : ∃ qa qb, posL s.data.toList q = (qa, qb) := ⟨_, _, rfl⟩
      have HP := hide hp
      clear hlx hp
      refine (lex_err s q qa qb _ hs (he.on hbw2) HX HP).mono ?_
      rintro e w3 ⟨rfl, hb3⟩
      have hL3 := (hL2.on hb3).on (box_on w3 (.cells #[.int .i64 qa, .int .i64 qb] 25))
      have hI3 := (hI2.on hb3).on (box_on w3 (.cells #[.int .i64 qa, .int .i64 qb] 25))
      have hp3 := PB.new w3 qa qb
      have hbw3 := alloc_on (bt hbw2 hb3) (.cells #[.int .i64 qa, .int .i64 qb] 25)
      clear hb3 hL2 hI2 hbw2
      go_wp2_with fail
      generalize w3.alloc (.cells #[.int .i64 (qa : Int), .int .i64 (qb : Int)] 25) = W3 at hL3 hI3 hp3 hbw3 ⊢
      generalize w3.heap.size = b3 at hp3 ⊢
      refine (refLex_err s q qa qb _ hs HX HP).mono ?_
      rintro e w4 ⟨rfl, hb4⟩
      have hL := (hL3.on hb4).on (box_on w4 (.cells #[.int .i64 qa, .int .i64 qb] 25))
      have hI := (hI3.on hb4).on (box_on w4 (.cells #[.int .i64 qa, .int .i64 qb] 25))
      have hx := liesT_none (w4.alloc (.cells #[.int .i64 (qa : Int), .int .i64 (qb : Int)] 25))
      have hy := liesT_none (w4.alloc (.cells #[.int .i64 (qa : Int), .int .i64 (qb : Int)] 25))
      have hpa := (hp3.on hb4).on (box_on w4 (.cells #[.int .i64 qa, .int .i64 qb] 25))
      have hpb := PB.new w4 qa qb
      have hbw := alloc_on (bt hbw3 hb4) (.cells #[.int .i64 qa, .int .i64 qb] 25)
      clear hb4 hL3 hI3 hp3 hbw3
      go_wp2_with fail
      generalize w4.alloc (.cells #[.int .i64 (qa : Int), .int .i64 (qb : Int)] 25) = W5 at hL hI hx hy hpa hpb hbw ⊢
      generalize w4.heap.size = b4 at hpb ⊢
      obtain ⟨p0, p1⟩ : _ ∧ _ := ⟨hpa.c0, hpa.c1⟩
      obtain ⟨r0, r1⟩ : _ ∧ _ := ⟨hpb.c0, hpb.c1⟩
      go_wp2_with fail
      go_loopw [12, 13] (fun j i wr => ∃ (k : Nat) (jt : ByteArray), k ≤ len ∧ i = .int .i64 k ∧ j = .string jt ∧ Hid (jt.data.toList = joinT (xs.take k)) ∧ jt.size ≤ 60300 ∧ (∃ d, wr = W5.drewN d)) (fun _ i _ => len - (intOf i).toNat)
      case atStart => exact ⟨0, ⟨#[]⟩, Nat.zero_le _, rfl, rfl, hide rfl, by decide, 0, rfl⟩
      case round =>
        obtain ⟨k, jt, hk, rfl, rfl, HJ, hjt, d, rfl⟩ := hrel
        by_cases hlt : k < len
        · have hkx : k < xs.length := by have := hL.len; omega
          have l1 : decide ((k : Int) < (len : Int)) = true := decide_eq_true (by omega)
          have l2 : (k : Int) < (len : Int) := by omega
          obtain ⟨b, o, hb0, hbl, c0, c1, c2, c3⟩ := hL.row.up (i := k) hkx
          obtain rfl := Option.some.inj hb0
          clear c0 c2 c3
          have hc1' := cell_on (below_drewN (Below.refl _ _) d) c1
          have HT : Hid (joinT (xs.take (k + 1)) = joinT (xs.take k) ++ ((if k = 0 then [] else [32]) ++ xs[k].2.1.data.toList)) := by
            show _ = _
            rw [List.take_succ_eq_append_getElem hkx, joinT_snoc]
            congr 2
            by_cases hk0 : k = 0
            · subst hk0; simp
            · have hne : ¬ xs.take k = [] := by
                intro e
                have := congrArg List.length e
                rw [List.length_take, List.length_nil] at this; omega
              rw [if_neg hne, if_neg hk0]
          have hle : (joinT (xs.take (k + 1))).length ≤ 60300 := Nat.le_trans (joinT_take_le xs (k + 1)) hjb
          generalize xs[k].2.1 = z at c1 hc1' HT
          by_cases hk0 : k = 0
          · have k1 : decide (0 < (k : Int)) = false := decide_eq_false (by omega)
            have k1' : decide (0 < k) = false := decide_eq_false (by omega)
            have k2 : ¬ 0 < k := by omega
            have HJ' : Hid ((jt ++ z).data.toList = joinT (xs.take (k + 1))) := hide (by rw [data_app2, unhide HJ, unhide HT, if_pos hk0]; rfl)
            have hjz : (jt ++ z).size ≤ 60300 := by rw [← size_list, unhide HJ']; exact hle
            have hjz2 : jt.size + z.size ≤ 60300 := by rw [← size_app2]; exact hjz
            have nb1 : ¬ 9223372036854775807 < jt.size + z.size := by omega
            clear hk0 hle hjz2
            go_wp2_with fail
            go_roundw
            case rel => exact ⟨k + 1, jt ++ z, by omega, by go_num, rfl, HJ', hjz, d, rfl⟩
            case measure => simp [intOf]; omega
          · have k1 : decide (0 < (k : Int)) = true := decide_eq_true (by omega)
            have k1' : decide (0 < k) = true := decide_eq_true (by omega)
            have k2 : 0 < k := by omega
            have HJ' : Hid ((jt ++ ⟨#[32]⟩ ++ z).data.toList = joinT (xs.take (k + 1))) := hide (by rw [data_app2, data_app2, unhide HJ, unhide HT, if_neg hk0]; simp)
            have hjz : (jt ++ ⟨#[32]⟩ ++ z).size ≤ 60300 := by rw [← size_list, unhide HJ']; exact hle
            have h32 : (⟨#[32]⟩ : ByteArray).size = 1 := rfl
            have hjz2 : jt.size + 1 + z.size ≤ 60300 := by
              have := hjz
              rw [size_app2, size_app2, h32] at this; exact this
            have nb1 : ¬ 9223372036854775807 < jt.size + 1 := by omega
            have nb2 : ¬ 9223372036854775807 < jt.size + (⟨#[32]⟩ : ByteArray).size := by rw [h32]; omega
            have nb3 : ¬ 9223372036854775807 < jt.size + 1 + z.size := by omega
            have nb4 : ¬ 9223372036854775807 < (jt ++ (⟨#[32]⟩ : ByteArray)).size + z.size := by rw [size_app2, h32]; omega
            clear hk0 hle hjz2 h32
            go_wp2_with fail
            go_roundw
            case rel => exact ⟨k + 1, jt ++ ⟨#[32]⟩ ++ z, by omega, by go_num, rfl, HJ', hjz, d, rfl⟩
            case measure => simp [intOf]; omega
        · have l1 : decide ((k : Int) < (len : Int)) = false := decide_eq_false (by omega)
          have HJ' : Hid (jt.data.toList = joinT xs) := hide (by rw [unhide HJ, List.take_of_length_le (by have := hL.len; omega)])
          have hbd : Below W5.heap.size W5 (W5.drewN d) := below_drewN (Below.refl _ _) d
          have hL6 := hL.on hbd
          have hI6 := hI.on hbd
          have hx6 := hx.on hbd
          have hy6 := hy.on hbd
          have hpa6 := hpa.on hbd
          have hpb6 := hpb.on hbd
          have hbw6 := bt hbw hbd
          have hln := hL.len
          clear hL hI hx hy hpa hpb hbw hbd p0 p1 r0 r1
          generalize W5.drewN d = W6 at hL6 hI6 hx6 hy6 hpa6 hpb6 hbw6 ⊢
          obtain ⟨p0, p1⟩ : _ ∧ _ := ⟨hpa6.c0, hpa6.c1⟩
          obtain ⟨r0, r1⟩ : _ ∧ _ := ⟨hpb6.c0, hpb6.c1⟩
          have hE := eqP_top qa qb
          have hj6 : (joinT xs).length ≤ 1000000 := by omega
          have h3k : len ≤ 20000 := by omega
          have hjj : (jt.toList == jt.toList) = true := by simp
          clear hln
          go_wp2_with fail
          refine (keepT_any none none (0) (0) 0 0 ([]) ([]) _ hx6.row hy6.row hx6.le hx6.ge hy6.le hy6.ge (by omega)).mono ?_
          rintro e w7 ⟨rfl, hb7⟩
          rw [decide_eq_true rfl]
          have hI7 := hI6.on hb7
          have hL7 := hL6.on hb7
          have hbw7 := bt hbw6 hb7
          clear hI6 hL6 hx6 hy6 hpa6 hpb6 hbw6 hb7 p0 p1 r0 r1 hE
          go_wp2_with fail
          refine (join_q ia len ic xs jt _ hI7 hj6 h3k HJ').mono ?_
          rintro e w8 ⟨rfl, hb8⟩
          have hI8 := hI7.on hb8
          have hL8 := hL7.on hb8
          have hbw8 := bt hbw7 hb8
          clear hI7 hL7 hbw7 hb8
          go_wp2_with fail
          refine (keepT_any ia (some ad) len len ic lc xs xs _ hI8.row hL8.row hI8.le hI8.ge hL8.le hL8.ge h3k).mono ?_
          rintro e w9 ⟨rfl, hb9⟩
          rw [decide_eq_true rfl]
          have hbw9 := bt hbw8 hb9
          clear hI8 hL8 hbw8 hb9
          go_wp2_with (go_at_call 12; refine (wakes_any _ (he.on hbw9)).mono ?_; rintro e w10 ⟨rfl, hb10⟩)
          go_ret
          exact ⟨rfl, bt hbw9 hb10⟩
end Go.Proofs.YtaapeleoiclplaaDoor
