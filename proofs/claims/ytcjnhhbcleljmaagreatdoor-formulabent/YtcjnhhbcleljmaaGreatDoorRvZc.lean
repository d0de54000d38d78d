/- Joined: RvJ RvK. -/
import Derived.Test.YtcjnhhbcleljmaaGreatDoorRvZa
import Derived.Test.YtcjnhhbcleljmaaGreatDoorAtO
namespace Go.Proofs.YtcjnhhbcleljmaaGreatDoor.Sb
open Go.RowKit
open V
open Ex (RowO LiesO flatO liesO_own)

set_option maxHeartbeats 4000000 in
set_option maxRecDepth 100000 in
theorem rread_arg (a : Option Addr) (n c : Nat) (i : Int) (w : World) (H : i < 0 ∨ (n : Int) < i) :
    Calls Tryz.prog 12 #[.slice a n c, .int .i64 i] w fun e w' => e = .returned (.tuple #[aggR zeroRz, .int .i64 0, .int .i64 1]) ∧ Below w.heap.size w w' := by
  have hb0 := below_new w zR
  have C0 := QB.new (v0 := .string ⟨#[]⟩) (v1 := .int .i64 0) (v2 := .slice none 0 0) (v3 := .slice none 0 0) w
  have CF := four_q C0 (.string ⟨#[]⟩) (.int .i64 0) (.slice none 0 0) (.slice none 0 0)
  have hbF : Below w.heap.size w (four (w.alloc zR) w.heap.size (.string ⟨#[]⟩) (.int .i64 0) (.slice none 0 0) (.slice none 0 0)) := (((hb0.setCell (p := ⟨w.heap.size, 0, none⟩) (Nat.le_refl _) _).setCell (p := ⟨w.heap.size, 1, none⟩) (Nat.le_refl _) _).setCell (p := ⟨w.heap.size, 2, none⟩) (Nat.le_refl _) _).setCell (p := ⟨w.heap.size, 3, none⟩) (Nat.le_refl _) _
  obtain ⟨t0, t1, t2, t3⟩ : _ ∧ _ ∧ _ ∧ _ := ⟨CF.c0, CF.c1, CF.c2, CF.c3⟩
  obtain ⟨z0, z1, z2, z3⟩ : _ ∧ _ ∧ _ ∧ _ := ⟨C0.c0, C0.c1, C0.c2, C0.c3⟩
  obtain ⟨f0, f1, f2, f3⟩ : _ ∧ _ ∧ _ ∧ _ := ⟨C0.fz 0, C0.fz 1, C0.fz 2, C0.fz 3⟩
  clear CF C0
  rcases H with H | H
  · have d1 : decide (i < 0) = true := decide_eq_true H
    go_enter Tryz.func12, Tryz.ntmps12
    go_wp2_with fail
    refine bodyPost_ret (v := .tuple #[aggR zeroRz, .int .i64 0, .int .i64 1]) (by simp [results, Tryz.results12, go_sem]) rfl ?_
    first | exact ⟨rfl, hbF⟩ | exact ⟨rfl, hb0⟩
  · have d0 : ¬ i < 0 := by omega
    have d1 : decide ((n : Int) < i) = true := decide_eq_true H
    go_enter Tryz.func12, Tryz.ntmps12
    go_wp2_with fail
    refine bodyPost_ret (v := .tuple #[aggR zeroRz, .int .i64 0, .int .i64 1]) (by simp [results, Tryz.results12, go_sem]) rfl ?_
    first | exact ⟨rfl, hbF⟩ | exact ⟨rfl, hb0⟩
/-- What rules.Read answers. -/
def ReadRes (w : World) (r : Except Nat (Rp × Nat)) (e : Ending) (w' : World) : Prop := match r with
  | .ok x => (∃ z : Rz, e = .returned (.tuple #[aggR z, .int .i64 x.2, .int .i64 0]) ∧ z.Own w' w.heap.size ∧ z.pl = x.1) ∧ Below w.heap.size w w'
  | .error q => e = .returned (.tuple #[aggR zeroRz, .int .i64 q, .int .i64 7]) ∧ Below w.heap.size w w'
set_option maxHeartbeats 8000000 in
set_option maxRecDepth 100000 in
theorem rread_any (a : Option Addr) (n c : Nat) (xs : List Tm) (p : Nat) (r : Except Nat (Rp × Nat)) (w : World) (G : Sg w a n c xs) (hp : p ≤ n) (H : Hid (readR (xs.map ktm) p = r)) :
    Calls Tryz.prog 12 #[.slice a n c, .int .i64 (p : Int)] w fun e w' => ReadRes w r e w' := by
  have hlen := G.len
  have d0 : ¬ (p : Int) < 0 := by omega
  have d1 : ¬ n < p := by omega
  obtain ⟨rx, hrx⟩ : ∃ rx, ruleR ((xs.map ktm).drop p) p = rx := ⟨_, rfl⟩
  have hb0 := below_new w zR
  have C0 := QB.new (v0 := .string ⟨#[]⟩) (v1 := .int .i64 0) (v2 := .slice none 0 0) (v3 := .slice none 0 0) w
  have hb1 := hb0.alloc hb0.size (.cells #[.slice a n c, .int .i64 (p : Int)] 98)
  have R1 : Rdr w ((w.alloc zR).alloc (.cells #[.slice a n c, .int .i64 (p : Int)] 98)) (w.heap.size + 1) a n c p := ⟨hb1, by omega, by
    have := heap_alloc_new (w.alloc zR) (.cells #[.slice a n c, .int .i64 (p : Int)] 98)
    rwa [show (w.alloc zR).heap.size = w.heap.size + 1 by simp] at this, hp⟩
  have C1 := C0.on (below_new (w.alloc zR) (.cells #[.slice a n c, .int .i64 (p : Int)] 98))
  have hs1 : ((w.alloc zR).alloc (.cells #[.slice a n c, .int .i64 (p : Int)] 98)).heap.size = w.heap.size + 2 := by simp
  clear C0 hb0
  go_enter Tryz.func12, Tryz.ntmps12
  go_wp2_with fail
  have hsz : ((w.alloc zR).alloc (.cells #[.slice a n c, .int .i64 (p : Int)] 98)).heap.size = w.heap.size + 2 := hs1
  generalize (w.alloc zR).alloc (.cells #[.slice a n c, .int .i64 (p : Int)] 98) = W1 at hb1 R1 C1 hsz ⊢
  clear hs1
  have F := rule_any G rx W1 R1 (hide hrx)
  have hne : w.heap.size ≠ w.heap.size + 1 := by omega
  have hfB : ∀ {W : World} (h : Below w.heap.size w W) (x0 x1 x2 x3 : Value), Below w.heap.size w (four W w.heap.size x0 x1 x2 x3) := fun h x0 x1 x2 x3 => (((h.setCell (p := ⟨w.heap.size, 0, none⟩) (Nat.le_refl _) x0).setCell (p := ⟨w.heap.size, 1, none⟩) (Nat.le_refl _) x1).setCell (p := ⟨w.heap.size, 2, none⟩) (Nat.le_refl _) x2).setCell (p := ⟨w.heap.size, 3, none⟩) (Nat.le_refl _) x3
  rcases rx with (_ | q) | ⟨v, rest, q⟩
  · have HE := hide ((unhide H).symm.trans (readR_deep hrx))
    clear H hrx
    refine F.mono ?_
    rintro e W2 ⟨rfl, ⟨q, R2⟩, hta⟩
    have hb2 : Below w.heap.size w W2 := hta.below hb1 (Nat.le_succ _) hb1.size
    have C2 := C1.turn hta hne
    have R3 := four_r R2 (Nat.le_refl w.heap.size) hne (.string ⟨#[]⟩) (.int .i64 0) (.slice none 0 0) (.slice none 0 0)
    have C3 := four_q C2 (.string ⟨#[]⟩) (.int .i64 0) (.slice none 0 0) (.slice none 0 0)
    have hb3 := hfB hb2 (.string ⟨#[]⟩) (.int .i64 0) (.slice none 0 0) (.slice none 0 0)
    have C4 := four_q C3 (.string ⟨#[]⟩) (.int .i64 0) (.slice none 0 0) (.slice none 0 0)
    have hb4 := hfB hb3 (.string ⟨#[]⟩) (.int .i64 0) (.slice none 0 0) (.slice none 0 0)
    obtain ⟨z0, z1, z2, z3⟩ : _ ∧ _ ∧ _ ∧ _ := ⟨C2.c0, C2.c1, C2.c2, C2.c3⟩
    obtain ⟨f0, f1, f2, f3⟩ : _ ∧ _ ∧ _ ∧ _ := ⟨C2.fz 0, C2.fz 1, C2.fz 2, C2.fz 3⟩
    unfold four at C3 C4 hb3 hb4
    obtain ⟨t0, t1, t2, t3⟩ : _ ∧ _ ∧ _ ∧ _ := ⟨C4.c0, C4.c1, C4.c2, C4.c3⟩
    obtain ⟨y0, y1, y2, y3⟩ : _ ∧ _ ∧ _ ∧ _ := ⟨C3.c0, C3.c1, C3.c2, C3.c3⟩
    obtain ⟨g0, g1, g2, g3⟩ : _ ∧ _ ∧ _ ∧ _ := ⟨C3.fz 0, C3.fz 1, C3.fz 2, C3.fz 3⟩
    clear F C1 R1 hta hb1 hfB C2 C3 C4 R2 R3
    go_wp2_with fail
    refine bodyPost_ret (v := .tuple #[aggR zeroRz, .int .i64 p, .int .i64 7]) (by simp [results, Tryz.results12, go_sem, t0, t1, t2, t3]) rfl ?_
    rw [unhide HE]
    exact ⟨rfl, hb4⟩
  · have HE := hide ((unhide H).symm.trans (readR_bad hrx))
    clear H hrx
    refine F.mono ?_
    rintro e W2 ⟨rfl, R2, hta⟩
    have hb2 : Below w.heap.size w W2 := hta.below hb1 (Nat.le_succ _) hb1.size
    have C2 := C1.turn hta hne
    have R3 := four_r R2 (Nat.le_refl w.heap.size) hne (.string ⟨#[]⟩) (.int .i64 0) (.slice none 0 0) (.slice none 0 0)
    have C3 := four_q C2 (.string ⟨#[]⟩) (.int .i64 0) (.slice none 0 0) (.slice none 0 0)
    have hb3 := hfB hb2 (.string ⟨#[]⟩) (.int .i64 0) (.slice none 0 0) (.slice none 0 0)
    obtain ⟨z0, z1, z2, z3⟩ : _ ∧ _ ∧ _ ∧ _ := ⟨C2.c0, C2.c1, C2.c2, C2.c3⟩
    obtain ⟨f0, f1, f2, f3⟩ : _ ∧ _ ∧ _ ∧ _ := ⟨C2.fz 0, C2.fz 1, C2.fz 2, C2.fz 3⟩
    unfold four at C3 hb3 R3
    clear F C1 R1 hta hb1 C2 R2
    go_wp2_with fail
    clear z0 z1 z2 z3 f0 f1 f2 f3
    generalize (((W2.setCell ⟨w.heap.size, 0, none⟩ (.string ⟨#[]⟩)).setCell ⟨w.heap.size, 1, none⟩ (.int .i64 0)).setCell ⟨w.heap.size, 2, none⟩ (.slice none 0 0)).setCell ⟨w.heap.size, 3, none⟩ (.slice none 0 0) = W3 at R3 C3 hb3 ⊢
    have hb5 := (hfB hb3 (.string ⟨#[]⟩) (.int .i64 0) (.slice none 0 0) (.slice none 0 0)).drew
    unfold four at hb5
    obtain ⟨z0, z1, z2, z3⟩ : _ ∧ _ ∧ _ ∧ _ := ⟨C3.c0, C3.c1, C3.c2, C3.c3⟩
    obtain ⟨f0, f1, f2, f3⟩ : _ ∧ _ ∧ _ ∧ _ := ⟨C3.fz 0, C3.fz 1, C3.fz 2, C3.fz 3⟩
    have r1 := R3.c1
    clear C3 R3 hfB
    go_region
    all_goals
      go_wp2_with fail
      refine bodyPost_ret (v := .tuple #[aggR zeroRz, .int .i64 q, .int .i64 7]) (by simp [results, Tryz.results12, go_sem, z0, z1, z2, z3]) rfl ?_
      rw [unhide HE]
      exact ⟨rfl, hb5⟩
  · obtain ⟨n1, n2, n3⟩ := rule_form hrx
    have hr1 := right_cutR n2
    refine F.mono ?_
    rintro e W2 ⟨⟨z, rfl, ho, hpl⟩, R2, hta⟩
    simp only at R2 hpl n1 n2 n3 hr1
    have hb2 : Below w.heap.size w W2 := hta.below hb1 (Nat.le_succ _) hb1.size
    have C2 := C1.turn hta hne
    have hs := rz_soft ho hpl n1 n3
    have ho1 : z.Own W2 (w.heap.size + 1) := ho.mono (by omega)
    have ho3 := ho1.four (Nat.lt_succ_self _) (.string z.n) (.int .i64 z.p) (.slice z.ca z.cl z.cc) (.slice z.aa z.al z.ac)
    have R3 := four_r R2 (Nat.le_refl w.heap.size) hne (.string z.n) (.int .i64 z.p) (.slice z.ca z.cl z.cc) (.slice z.aa z.al z.ac)
    have C3 := four_q C2 (.string z.n) (.int .i64 z.p) (.slice z.ca z.cl z.cc) (.slice z.aa z.al z.ac)
    have hb3 := hfB hb2 (.string z.n) (.int .i64 z.p) (.slice z.ca z.cl z.cc) (.slice z.aa z.al z.ac)
    obtain ⟨z0, z1, z2, z3⟩ : _ ∧ _ ∧ _ ∧ _ := ⟨C2.c0, C2.c1, C2.c2, C2.c3⟩
    obtain ⟨f0, f1, f2, f3⟩ : _ ∧ _ ∧ _ ∧ _ := ⟨C2.fz 0, C2.fz 1, C2.fz 2, C2.fz 3⟩
    have HPL := hide hpl
    have HR1 := hide hr1
    have HRX := hide hrx
    obtain ⟨t0, t1, t2, t3⟩ : _ ∧ _ ∧ _ ∧ _ := ⟨C3.c0, C3.c1, C3.c2, C3.c3⟩
    clear F C1 R1 hta hb1 ho ho1 n1 n2 n3 hpl hr1 hrx C2 R2
    go_wp2_with fail
    clear z0 z1 z2 z3 f0 f1 f2 f3 t0 t1 t2 t3
    unfold four at ho3 R3 C3 hb3
    generalize (((W2.setCell ⟨w.heap.size, 0, none⟩ (.string z.n)).setCell ⟨w.heap.size, 1, none⟩ (.int .i64 z.p)).setCell ⟨w.heap.size, 2, none⟩ (.slice z.ca z.cl z.cc)).setCell ⟨w.heap.size, 3, none⟩ (.slice z.aa z.al z.ac) = W3 at ho3 R3 C3 hb3 ⊢
    refine (check_any z W3 ho3.lies hs).mono ?_
    rw [unhide HPL, unhide HR1]
    rintro e W4 ⟨rfl, hb4⟩
    have ho4 := ho3.on hb4
    have R4 := R3.on hb4
    have C4 := C3.on hb4
    have hb5 := bt hb3 hb4
    clear ho3 R3 C3 hb3 hb4 hs
    by_cases hv : rightR v = true
    · have HE := hide ((unhide H).symm.trans (readR_ok (unhide HRX) hv))
      have HC := hide (cutR_right hv)
      rw [hv, show chk true = 0 from rfl]
      have hb6 := (hfB hb5 (.string z.n) (.int .i64 z.p) (.slice z.ca z.cl z.cc) (.slice z.aa z.al z.ac)).drew
      have ho5 := ((ho4.four (Nat.lt_succ_self _) (.string z.n) (.int .i64 z.p) (.slice z.ca z.cl z.cc) (.slice z.aa z.al z.ac)).mono (B' := w.heap.size) (by omega)).on (Below.refl _ _).drew
      unfold four at hb6 ho5
      obtain ⟨z0, z1, z2, z3⟩ : _ ∧ _ ∧ _ ∧ _ := ⟨C4.c0, C4.c1, C4.c2, C4.c3⟩
      obtain ⟨f0, f1, f2, f3⟩ : _ ∧ _ ∧ _ ∧ _ := ⟨C4.fz 0, C4.fz 1, C4.fz 2, C4.fz 3⟩
      have r1 := R4.c1
      clear C4 R4 ho4 H hv hfB
      go_wp2_with fail
      go_region
      all_goals
        go_wp2_with fail
        refine bodyPost_ret (v := .tuple #[aggR z, .int .i64 q, .int .i64 0]) (by simp [results, Tryz.results12, go_sem, z0, z1, z2, z3]) rfl ?_
        rw [unhide HE]
        exact ⟨⟨z, rfl, ho5, (unhide HPL).trans (unhide HC)⟩, hb6⟩
    · have HE := hide ((unhide H).symm.trans (readR_wrong (unhide HRX) hv))
      rw [Bool.eq_false_iff.2 hv, show chk false = 1 from rfl]
      have C5 := four_q C4 (.string ⟨#[]⟩) (.int .i64 0) (.slice none 0 0) (.slice none 0 0)
      have hb6 := hfB hb5 (.string ⟨#[]⟩) (.int .i64 0) (.slice none 0 0) (.slice none 0 0)
      obtain ⟨t0, t1, t2, t3⟩ : _ ∧ _ ∧ _ ∧ _ := ⟨C5.c0, C5.c1, C5.c2, C5.c3⟩
      obtain ⟨z0, z1, z2, z3⟩ : _ ∧ _ ∧ _ ∧ _ := ⟨C4.c0, C4.c1, C4.c2, C4.c3⟩
      obtain ⟨f0, f1, f2, f3⟩ : _ ∧ _ ∧ _ ∧ _ := ⟨C4.fz 0, C4.fz 1, C4.fz 2, C4.fz 3⟩
      clear C4 C5 R4 ho4 H hv hfB
      go_wp2_with fail
      refine bodyPost_ret (v := .tuple #[aggR zeroRz, .int .i64 p, .int .i64 7]) (by simp [results, Tryz.results12, go_sem, t0, t1, t2, t3]) rfl ?_
      rw [unhide HE]
      exact ⟨rfl, hb6⟩
end Go.Proofs.YtcjnhhbcleljmaaGreatDoor.Sb
namespace Go.Proofs.YtcjnhhbcleljmaaGreatDoor.Sb
open Go.RowKit
open V
open Ex (RowO LiesO flatO liesO_own)

/-- What Tokens answers of a right text, however long it may be. -/
theorem lex_lies2 (s : ByteArray) (us : List Tk) (w : World) (hs : s.size ≤ 20000) (he : Env w) (H : Hid (lexA rightK s.data.toList 0 = .ok us)) :
    Calls Tryz.prog 41 #[.string s] w fun e w' => (∃ (a : Option Addr) (c : Nat) (xs : List Tm), e = .returned (.tuple #[.slice a us.length c, .agg #[.int .i64 0, .int .i64 0], .int .i64 0]) ∧ LiesT w' a us.length c xs ∧ Hid (xs.map ktm = us.map kt) ∧ Hid (∀ x ∈ xs, x.2.1.size ≤ 20000)) ∧ Below w.heap.size w w' := by
  have hf := lex_few (unhide H)
  rw [size_list] at hf
  refine (lex_ok s us _ w (by omega) he H (hide rfl)).mono ?_
  rintro e w' ⟨⟨a, n, c, rfl, hl⟩, hb⟩
  have hn : n = us.length := by rw [hl.len, List.length_map]
  subst hn
  refine ⟨⟨a, c, _, rfl, hl, hide (ktm_map _ _), hide ?_⟩, hb⟩
  intro x hx
  obtain ⟨t, ht, rfl⟩ := List.mem_map.1 hx
  have := hf.2 t ht
  show t.2.1.toArray.size ≤ _
  simp; omega
theorem hfB {w W : World} (h : Below w.heap.size w W) (x0 x1 x2 x3 : Value) : Below w.heap.size w (four W w.heap.size x0 x1 x2 x3) := (((h.setCell (p := ⟨w.heap.size, 0, none⟩) (Nat.le_refl _) x0).setCell (p := ⟨w.heap.size, 1, none⟩) (Nat.le_refl _) x1).setCell (p := ⟨w.heap.size, 2, none⟩) (Nat.le_refl _) x2).setCell (p := ⟨w.heap.size, 3, none⟩) (Nat.le_refl _) x3
/-- The text of one rule. -/
def isText (l : List UInt8) (v : Rp) : Prop := ∃ us, lexA rightK l 0 = .ok us ∧ us.length ≤ 19999 ∧ readR (us.map kt) 0 = .ok (v, us.length)
/-- Signs, but not those of one rule. -/
def noText (l : List UInt8) : Prop := ∃ us, lexA rightK l 0 = .ok us ∧ us.length ≤ 19999 ∧ ∀ v, readR (us.map kt) 0 ≠ .ok (v, us.length)
set_option maxHeartbeats 4000000 in
set_option maxRecDepth 100000 in
theorem rparse_ok (s : ByteArray) (v : Rp) (w : World) (he : Env w) (hs : s.size ≤ 20000) (H : Hid (isText s.data.toList v)) :
    Calls Tryz.prog 13 #[.string s] w fun e w' => (∃ z : Rz, e = .returned (.tuple #[aggR z, .int .i64 0]) ∧ z.Own w' w.heap.size ∧ z.pl = v) ∧ Below w.heap.size w w' := by
  obtain ⟨us, hlx, hu, hrd⟩ := unhide H
  have hb0 := below_new w zR
  have C0 := QB.new (v0 := .string ⟨#[]⟩) (v1 := .int .i64 0) (v2 := .slice none 0 0) (v3 := .slice none 0 0) w
  have he0 := he.on hb0
  have HX := hide hlx
  have HR := hide hrd
  clear hlx hrd H
  go_enter Tryz.func13, Tryz.ntmps13
  go_wp2_with fail
  refine (lex_lies2 s us _ hs he0 HX).mono ?_
  rintro e w1 ⟨⟨a, c, xs, rfl, hl, HK, HZ⟩, hb1⟩
  have hbx := below_new w1 (objPos 0 0)
  have C1 := (C0.on hb1).on hbx
  have hw1 := bt (bt hb0 hb1) hbx
  have G : Sg (w1.alloc (objPos 0 0)) a us.length c xs := ⟨he.on hw1, hl.on hbx, HZ, hu⟩
  have F := rread_any a us.length c xs 0 (.ok (v, us.length)) _ G (Nat.zero_le _) (hide (by rw [unhide HK]; exact unhide HR))
  have hsz : w.heap.size + 1 ≤ (w1.alloc (objPos 0 0)).heap.size := C1.lt
  clear C0 hl he0 hbx hb1 G hb0
  go_wp2_with fail
  generalize w1.alloc (objPos 0 0) = W1 at F C1 hw1 hsz ⊢
  refine F.mono ?_
  rintro e w2 ⟨⟨z, rfl, ho, hpl⟩, hb2⟩
  simp only at hpl
  have hbz := below_new w2 (.cells #[.string z.n, .int .i64 z.p, .slice z.ca z.cl z.cc, .slice z.aa z.al z.ac] 25)
  have C2 := (C1.on hb2).on hbz
  have Cz := QB.new (v0 := .string z.n) (v1 := .int .i64 z.p) (v2 := .slice z.ca z.cl z.cc) (v3 := .slice z.aa z.al z.ac) w2
  have hw2 := hfB (bt (bt hw1 hb2) hbz) (.string z.n) (.int .i64 z.p) (.slice z.ca z.cl z.cc) (.slice z.aa z.al z.ac)
  have ho2 := (((ho.on hbz).mono hsz).four (Nat.lt_succ_self _) (.string z.n) (.int .i64 z.p) (.slice z.ca z.cl z.cc) (.slice z.aa z.al z.ac)).mono (B' := w.heap.size) (by omega)
  unfold four at hw2 ho2
  obtain ⟨z0, z1, z2, z3⟩ : _ ∧ _ ∧ _ ∧ _ := ⟨C2.c0, C2.c1, C2.c2, C2.c3⟩
  obtain ⟨f0, f1, f2, f3⟩ : _ ∧ _ ∧ _ ∧ _ := ⟨C2.fz 0, C2.fz 1, C2.fz 2, C2.fz 3⟩
  obtain ⟨y0, y1, y2, y3⟩ : _ ∧ _ ∧ _ ∧ _ := ⟨Cz.c0, Cz.c1, Cz.c2, Cz.c3⟩
  clear C1 C2 Cz hw1 hb2 hbz ho F
  go_wp2_with fail
  refine bodyPost_ret (v := .tuple #[aggR z, .int .i64 0]) (by simp [results, Tryz.results13, go_sem, z0, z1, z2, z3]) rfl ?_
  exact ⟨⟨z, rfl, ho2, hpl⟩, hw2⟩

set_option maxHeartbeats 4000000 in
set_option maxRecDepth 100000 in
theorem rparse_no (s : ByteArray) (w : World) (he : Env w) (hs : s.size ≤ 20000) (H : Hid (noText s.data.toList)) :
    Calls Tryz.prog 13 #[.string s] w fun e w' => e = .returned (.tuple #[aggR zeroRz, .int .i64 7]) ∧ Below w.heap.size w w' := by
  obtain ⟨us, hlx, hu, hrd⟩ := unhide H
  have hb0 := below_new w zR
  have C0 := QB.new (v0 := .string ⟨#[]⟩) (v1 := .int .i64 0) (v2 := .slice none 0 0) (v3 := .slice none 0 0) w
  have he0 := he.on hb0
  have HX := hide hlx
  obtain ⟨r, hr⟩ : ∃ r, readR (us.map kt) 0 = r := ⟨_, rfl⟩
  have HD : Hid (∀ v q, r = .ok (v, q) → q < us.length) := hide (fun v q e => by
    have h1 := (readR_bounds (Nat.zero_le _) (hr.trans e)).2
    simp only [List.length_map] at h1
    have h2 : q ≠ us.length := fun e2 => hrd v (by rw [hr, e, e2])
    omega)
  have HR := hide hr
  clear hlx hrd H hr
  go_enter Tryz.func13, Tryz.ntmps13
  go_wp2_with fail
  refine (lex_lies2 s us _ hs he0 HX).mono ?_
  rintro e w1 ⟨⟨a, c, xs, rfl, hl, HK, HZ⟩, hb1⟩
  have hbx := below_new w1 (objPos 0 0)
  have C1 := (C0.on hb1).on hbx
  have hw1 := bt (bt hb0 hb1) hbx
  have G : Sg (w1.alloc (objPos 0 0)) a us.length c xs := ⟨he.on hw1, hl.on hbx, HZ, hu⟩
  have F := rread_any a us.length c xs 0 r _ G (Nat.zero_le _) (hide (by rw [unhide HK]; exact unhide HR))
  clear C0 hl he0 hbx hb1 G hb0
  go_wp2_with fail
  generalize w1.alloc (objPos 0 0) = W1 at F C1 hw1 ⊢
  refine F.mono ?_
  rintro e w2 hres
  rcases r with q | ⟨v, q⟩
  · obtain ⟨rfl, hb2⟩ := hres
    have hbz := below_new w2 zR
    have C2 := (C1.on hb2).on hbz
    have hw2 := hfB (bt (bt hw1 hb2) hbz) (.string ⟨#[]⟩) (.int .i64 0) (.slice none 0 0) (.slice none 0 0)
    unfold four at hw2
    obtain ⟨z0, z1, z2, z3⟩ : _ ∧ _ ∧ _ ∧ _ := ⟨C2.c0, C2.c1, C2.c2, C2.c3⟩
    obtain ⟨f0, f1, f2, f3⟩ : _ ∧ _ ∧ _ ∧ _ := ⟨C2.fz 0, C2.fz 1, C2.fz 2, C2.fz 3⟩
    clear C1 C2 hw1 hb2 hbz F
    go_wp2_with fail
    refine bodyPost_ret (v := .tuple #[aggR zeroRz, .int .i64 7]) (by simp [results, Tryz.results13, go_sem, z0, z1, z2, z3]) rfl ?_
    exact ⟨rfl, hw2⟩
  · obtain ⟨⟨z, rfl, ho, hpl⟩, hb2⟩ := hres
    simp only at hpl
    have dq : q < us.length := unhide HD v q rfl
    have hbz := below_new w2 (.cells #[.string z.n, .int .i64 z.p, .slice z.ca z.cl z.cc, .slice z.aa z.al z.ac] 25)
    have C2 := (C1.on hb2).on hbz
    have hw2 := hfB (bt (bt hw1 hb2) hbz) (.string ⟨#[]⟩) (.int .i64 0) (.slice none 0 0) (.slice none 0 0)
    unfold four at hw2
    obtain ⟨z0, z1, z2, z3⟩ : _ ∧ _ ∧ _ ∧ _ := ⟨C2.c0, C2.c1, C2.c2, C2.c3⟩
    obtain ⟨f0, f1, f2, f3⟩ : _ ∧ _ ∧ _ ∧ _ := ⟨C2.fz 0, C2.fz 1, C2.fz 2, C2.fz 3⟩
    clear C1 C2 hw1 hb2 hbz F ho hpl
    go_wp2_with fail
    refine bodyPost_ret (v := .tuple #[aggR zeroRz, .int .i64 7]) (by simp [results, Tryz.results13, go_sem, z0, z1, z2, z3]) rfl ?_
    exact ⟨rfl, hw2⟩
end Go.Proofs.YtcjnhhbcleljmaaGreatDoor.Sb
