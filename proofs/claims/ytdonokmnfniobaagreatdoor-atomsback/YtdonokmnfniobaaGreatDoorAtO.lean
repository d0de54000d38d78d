/- What atoms.Parse answers; what lex.Tokens answers of a text that is known. -/
import Derived.Test.YtdonokmnfniobaaGreatDoorAtN
namespace Go.Proofs.YtdonokmnfniobaaGreatDoor.Sb
open Go.RowKit
open V
open Ex (RowO LiesO flatO)

/-- What Tokens answers of a right text: its signs lie in memory. -/
theorem lex_lies (s : ByteArray) (us : List Tk) (w : World) (hs : s.size ≤ 19999) (he : Env w) (H : Hid (lexA rightK s.data.toList 0 = .ok us)) :
    Calls Tryz.prog 9 #[.string s] w fun e w' => (∃ (a : Option Addr) (c : Nat) (xs : List Tm), e = .returned (.tuple #[.slice a us.length c, .agg #[.int .i64 0, .int .i64 0], .int .i64 0]) ∧ LiesT w' a us.length c xs ∧ Hid (xs.map ktm = us.map kt) ∧ Hid (∀ x ∈ xs, x.2.1.size ≤ 20000) ∧ us.length ≤ 19999) ∧ Below w.heap.size w w' := by
  have hf := lex_few (unhide H)
  rw [size_list] at hf
  refine (lex_ok s us _ w (by omega) he H (hide rfl)).mono ?_
  rintro e w' ⟨⟨a, n, c, rfl, hl⟩, hb⟩
  have hn : n = us.length := by rw [hl.len, List.length_map]
  subst hn
  refine ⟨⟨a, c, _, rfl, hl, hide (ktm_map _ _), hide ?_, by omega⟩, hb⟩
  intro x hx
  obtain ⟨t, ht, rfl⟩ := List.mem_map.1 hx
  have := hf.2 t ht
  show t.2.1.toArray.size ≤ _
  simp; omega

set_option maxHeartbeats 2000000 in
set_option maxRecDepth 100000 in
theorem parse_ok (s : ByteArray) (x : At) (w : World) (he : Env w) (hs : s.size ≤ 19999) (H : Hid (parseA s.data.toList = some x)) :
    Calls Tryz.prog 8 #[.string s] w fun e w' => (∃ (z : ByteArray) (a : Option Addr) (n c : Nat), e = .returned (.tuple #[.agg #[.string z, .slice a n c], .int .i64 0]) ∧ z.data.toList = x.1 ∧ Lies w' a n c x.2) ∧ Below w.heap.size w w' := by
  have hb0 : Below w.heap.size w (w.alloc (.cells #[.string ⟨#[]⟩, .slice none 0 0] 24)) := (Below.refl _ _).alloc (Nat.le_refl _) _
  have A0 := AB.new w ⟨#[]⟩ (.slice none 0 0)
  have he0 := he.on hb0
  obtain ⟨us, hlx, q, hra, hqn⟩ : ∃ us, lexA rightK s.data.toList 0 = .ok us ∧ ∃ q, readA (us.map kt) 0 = .ok (x, q) ∧ q = us.length := by
    have h := unhide H
    unfold parseA at h
    split at h
    · cases h
    · rename_i us hlx
      split at h
      · cases h
      · rename_i y hy
        split at h
        · rename_i hq
          cases h
          exact ⟨us, hlx, y.2, hy, hq⟩
        · cases h
  subst hqn
  have HX := hide hlx
  have HR := hide hra
  clear hlx hra H
  go_enter Tryz.func8, Tryz.ntmps8
  go_wp2_with fail
  refine (lex_lies s us _ hs he0 HX).mono ?_
  rintro e w1 ⟨⟨a, c, xs, rfl, hl, HK, HZ, hu⟩, hb1⟩
  have hbx : Below w1.heap.size w1 (w1.alloc (objPos 0 0)) := (Below.refl _ _).alloc (Nat.le_refl _) _
  have A1 := (A0.on hb1).on hbx
  have hl1 := hl.on hbx
  have hbw := bt (bt hb0 hb1) hbx
  have he1 := he.on hbw
  clear A0 hl he he0 hbx hb1
  go_wp2_with fail
  have HR' : Hid (readA (xs.map ktm) 0 = .ok (x, us.length)) := hide (by rw [unhide HK]; exact unhide HR)
  have F := read_ok a us.length c xs 0 (x, us.length) (w1.alloc (objPos 0 0)) he1 hl1 HZ hu (Nat.zero_le _) HR'
  have hsz : w.heap.size < (w1.alloc (objPos 0 0)).heap.size := A1.lt
  generalize w1.alloc (objPos 0 0) = W at F A1 hbw hsz ⊢
  refine F.mono ?_
  clear F
  rintro e w2 ⟨⟨z, a', n', c', rfl, hz, hown⟩, hb2⟩
  simp only at hz hown
  have A2 := A1.on hb2
  have hbw2 := bt hbw hb2
  have hby : Below w2.heap.size w2 (w2.alloc (.cells #[.string z, .slice a' n' c'] 24)) := (Below.refl _ _).alloc (Nat.le_refl _) _
  have A3 := A2.on hby
  have own3 := own_on hown hby
  have hbw3 := bt hbw2 hby
  have Aa := AB.new w2 z (.slice a' n' c')
  have hne : ∀ g, (Value.slice a' n' c').ownBlock = some g → g ≠ w.heap.size := fun g hg => by have := (hown.lt g hg).1; omega
  have own4 := ownsRow_setCell_other (ownsRow_setCell_other own3 (a := ⟨w.heap.size, 0, none⟩) (fun e => hne _ e rfl) (.string z)) (a := ⟨w.heap.size, 1, none⟩) (fun e => hne _ e rfl) (.slice a' n' c')
  have hL := lies_row own4
  have A4 := (A3.set0 z).set1 (.slice a' n' c')
  obtain ⟨r0, r1⟩ : _ ∧ _ := ⟨A4.c0, A4.c1⟩
  obtain ⟨y0, y1, h0, h1⟩ : _ ∧ _ ∧ _ ∧ _ := ⟨A3.c0, A3.c1, A3.f0, A3.f1⟩
  obtain ⟨a0, a1⟩ : _ ∧ _ := ⟨Aa.c0, Aa.c1⟩
  clear A1 A2 A3 A4 Aa hown own3 own4 hl1 he1
  go_wp2_with fail
  refine bodyPost_ret (v := .tuple #[.agg #[.string z, .slice a' n' c'], .int .i64 0]) (by simp [results, Tryz.results8, go_sem, r0, r1]) rfl ?_
  exact ⟨⟨z, a', n', c', rfl, hz, hL⟩, below2 hbw3 (Nat.le_refl _) _ _⟩

set_option maxHeartbeats 2000000 in
set_option maxRecDepth 100000 in
theorem parse_none (s : ByteArray) (us : List Tk) (w : World) (he : Env w) (hs : s.size ≤ 19999) (HX : Hid (lexA rightK s.data.toList 0 = .ok us)) (H : Hid (parseA s.data.toList = none)) :
    Calls Tryz.prog 8 #[.string s] w fun e w' => e = .returned (.tuple #[.agg #[.string ⟨#[]⟩, .slice none 0 0], .int .i64 7]) ∧ Below w.heap.size w w' := by
  have hb0 : Below w.heap.size w (w.alloc (.cells #[.string ⟨#[]⟩, .slice none 0 0] 24)) := (Below.refl _ _).alloc (Nat.le_refl _) _
  have A0 := AB.new w ⟨#[]⟩ (.slice none 0 0)
  have he0 := he.on hb0
  obtain ⟨r, hr⟩ : ∃ r, readA (us.map kt) 0 = r := ⟨_, rfl⟩
  rcases hrr : r with (q | ⟨x, q⟩)
  · subst hrr
    have HR := hide hr
    clear hr H
    go_enter Tryz.func8, Tryz.ntmps8
    go_wp2_with fail
    refine (lex_lies s us _ hs he0 HX).mono ?_
    rintro e w1 ⟨⟨a, c, xs, rfl, hl, HK, HZ, hu⟩, hb1⟩
    have hbx : Below w1.heap.size w1 (w1.alloc (objPos 0 0)) := (Below.refl _ _).alloc (Nat.le_refl _) _
    have A1 := (A0.on hb1).on hbx
    have hl1 := hl.on hbx
    have hbw := bt (bt hb0 hb1) hbx
    have he1 := he.on hbw
    clear A0 hl he he0 hbx hb1
    go_wp2_with fail
    have HR' : Hid (readA (xs.map ktm) 0 = .error q) := hide (by rw [unhide HK]; exact unhide HR)
    have F := read_no a us.length c xs 0 q (w1.alloc (objPos 0 0)) he1 hl1 HZ hu (Nat.zero_le _) HR'
    generalize w1.alloc (objPos 0 0) = W at F A1 hbw ⊢
    refine F.mono ?_
    clear F
    rintro e w2 ⟨rfl, hb2⟩
    have hby : Below w2.heap.size w2 (w2.alloc (.cells #[.string ⟨#[]⟩, .slice none 0 0] 24)) := (Below.refl _ _).alloc (Nat.le_refl _) _
    have A3 := (A1.on hb2).on hby
    have hbw3 := bt (bt hbw hb2) hby
    have A4 := (A3.set0 ⟨#[]⟩).set1 (.slice none 0 0)
    obtain ⟨r0, r1⟩ : _ ∧ _ := ⟨A4.c0, A4.c1⟩
    obtain ⟨y0, y1, h0, h1⟩ : _ ∧ _ ∧ _ ∧ _ := ⟨A3.c0, A3.c1, A3.f0, A3.f1⟩
    clear A1 A3 A4 hl1 he1
    go_wp2_with fail
    refine bodyPost_ret (v := .tuple #[.agg #[.string ⟨#[]⟩, .slice none 0 0], .int .i64 7]) (by simp [results, Tryz.results8, go_sem, r0, r1]) rfl ?_
    exact ⟨rfl, below2 hbw3 (Nat.le_refl _) _ _⟩
  · subst hrr
    have hq : q < us.length := by
      have h1 := (readA_right hr).2.2
      rw [List.length_map] at h1
      have h2 : q ≠ us.length := fun h2 => by
        have h3 := parseA_all (unhide HX) hr h2
        rw [unhide H] at h3
        cases h3
      simp only at h1
      omega
    have HR := hide hr
    clear hr H
    go_enter Tryz.func8, Tryz.ntmps8
    go_wp2_with fail
    refine (lex_lies s us _ hs he0 HX).mono ?_
    rintro e w1 ⟨⟨a, c, xs, rfl, hl, HK, HZ, hu⟩, hb1⟩
    have hbx : Below w1.heap.size w1 (w1.alloc (objPos 0 0)) := (Below.refl _ _).alloc (Nat.le_refl _) _
    have A1 := (A0.on hb1).on hbx
    have hl1 := hl.on hbx
    have hbw := bt (bt hb0 hb1) hbx
    have he1 := he.on hbw
    clear A0 hl he he0 hbx hb1
    go_wp2_with fail
    have HR' : Hid (readA (xs.map ktm) 0 = .ok (x, q)) := hide (by rw [unhide HK]; exact unhide HR)
    have F := read_ok a us.length c xs 0 (x, q) (w1.alloc (objPos 0 0)) he1 hl1 HZ hu (Nat.zero_le _) HR'
    generalize w1.alloc (objPos 0 0) = W at F A1 hbw ⊢
    refine F.mono ?_
    clear F
    rintro e w2 ⟨⟨z, a', n', c', rfl, hz, hown⟩, hb2⟩
    have hby : Below w2.heap.size w2 (w2.alloc (.cells #[.string z, .slice a' n' c'] 24)) := (Below.refl _ _).alloc (Nat.le_refl _) _
    have A3 := (A1.on hb2).on hby
    have hbw3 := bt (bt hbw hb2) hby
    have A4 := (A3.set0 ⟨#[]⟩).set1 (.slice none 0 0)
    obtain ⟨r0, r1⟩ : _ ∧ _ := ⟨A4.c0, A4.c1⟩
    obtain ⟨y0, y1, h0, h1⟩ : _ ∧ _ ∧ _ ∧ _ := ⟨A3.c0, A3.c1, A3.f0, A3.f1⟩
    clear A1 A3 A4 hl1 he1 hown
    simp only at hz ⊢
    clear hz
    go_wp2_with fail
    refine bodyPost_ret (v := .tuple #[.agg #[.string ⟨#[]⟩, .slice none 0 0], .int .i64 7]) (by simp [results, Tryz.results8, go_sem, r0, r1]) rfl ?_
    exact ⟨rfl, below2 hbw3 (Nat.le_refl _) _ _⟩
end Go.Proofs.YtdonokmnfniobaaGreatDoor.Sb
