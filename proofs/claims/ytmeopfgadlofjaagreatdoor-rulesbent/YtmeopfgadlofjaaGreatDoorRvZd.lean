/- Joined: RunB RvQ RvS. -/
import Derived.Test.YtmeopfgadlofjaaGreatDoorRunA
import Derived.KernelRfl
import Derived.Test.YtmeopfgadlofjaaGreatDoorRvZb
import Derived.Test.YtmeopfgadlofjaaGreatDoorRvZc
namespace Go.Proofs.YtmeopfgadlofjaaGreatDoor.V

/-- rule a -5: p(X), not q(X), [X < 3] -> +r((X + 1)), drop 0. -/
def rkT : List UInt8 := [114, 117, 108, 101, 32, 97, 32, 45, 53, 58, 32, 112, 40, 88, 41, 44, 32, 110, 111, 116, 32, 113, 40, 88, 41, 44, 32, 91, 88, 32, 60, 32, 51, 93, 32, 45, 62, 32, 43, 114, 40, 40, 88, 32, 43, 32, 49, 41, 41, 44, 32, 100, 114, 111, 112, 32, 48, 46]
/-- rule a 0: not p -> +q. -/
def rkU : List UInt8 := [114, 117, 108, 101, 32, 97, 32, 48, 58, 32, 110, 111, 116, 32, 112, 32, 45, 62, 32, 43, 113, 46]
def rkR : Rp := ([97], -5, [(1, ([112], [(⟨#[88]⟩, zeroV)]), 0, [], []), (2, ([113], [(⟨#[88]⟩, zeroV)]), 0, [], []), (3, noA, 3, [(1, ⟨#[88]⟩, zeroV)], [(2, ⟨#[]⟩, 1, 3, ⟨#[]⟩)])], [(1, [114], [[(1, ⟨#[88]⟩, zeroV), (2, ⟨#[]⟩, 1, 1, ⟨#[]⟩), (3, ⟨#[]⟩, zeroV)]], 0), (2, [], [], 0)])
def rkK : List Kt := [(1, [114, 117, 108, 101]), (1, [97]), (3, [45, 53]), (5, [58]), (1, [112]), (5, [40]), (2, [88]), (5, [41]), (5, [44]), (1, [110, 111, 116]), (1, [113]), (5, [40]), (2, [88]), (5, [41]), (5, [44]), (5, [91]), (2, [88]), (5, [60]), (3, [51]), (5, [93]), (5, [45, 62]), (5, [43]), (1, [114]), (5, [40]), (5, [40]), (2, [88]), (5, [43]), (3, [49]), (5, [41]), (5, [41]), (5, [44]), (1, [100, 114, 111, 112]), (3, [48]), (5, [46])]
def rkL : List Kt := [(1, [114, 117, 108, 101]), (1, [97]), (3, [48]), (5, [58]), (1, [110, 111, 116]), (1, [112]), (5, [45, 62]), (5, [43]), (1, [113]), (5, [46])]
theorem rk_lex : lexK rkT = some rkK := by kernel_rfl
theorem rk_lex2 : lexK rkU = some rkL := by kernel_rfl
theorem rk_read : readR rkK 0 = .ok (rkR, rkK.length) := by kernel_rfl
theorem rk_read2 : readR rkL 0 = .error 0 := by kernel_rfl
theorem rk_right : rightR rkR = true := by kernel_rfl
theorem itoa_neg5 : Lib.itoa (-5) = [45, 53] := by
  unfold Lib.itoa
  rw [if_pos (by decide)]
  simp [Lib.decDigits]
theorem rk_text : textR rkR = rkT := by
  rw [textR_is rk_right]
  have e0 := itoa_small (n := 0) (by decide)
  have e1 := itoa_small (n := 1) (by decide)
  have e3 := itoa_small (n := 3) (by decide)
  have t1 : textX [(1, ⟨#[88]⟩, zeroV), (2, ⟨#[]⟩, 1, 1, ⟨#[]⟩), (3, ⟨#[]⟩, zeroV)] = [40, 88, 32, 43, 32, 49, 41] := by
    show 40 :: ([88] ++ 32 :: 43 :: 32 :: (Lib.itoa 1 ++ [41])) = _
    rw [show Lib.itoa 1 = [49] from e1]
    rfl
  have t2 : textX [(1, ⟨#[88]⟩, zeroV)] = [88] := rfl
  have t3 : textX [(2, ⟨#[]⟩, 1, 3, ⟨#[]⟩)] = [51] := by
    show Lib.itoa 3 = _
    exact e3
  have a1 : actT (1, [114], [[(1, ⟨#[88]⟩, zeroV), (2, ⟨#[]⟩, 1, 1, ⟨#[]⟩), (3, ⟨#[]⟩, zeroV)]], 0) = [43, 114, 40, 40, 88, 32, 43, 32, 49, 41, 41] := by
    show [43] ++ [114] ++ [40] ++ joinC [textX _] ++ [41] = _
    rw [t1, joinC_one]
    rfl
  have a2 : actT (2, [], [], 0) = [100, 114, 111, 112, 32, 48] := by
    show [100, 114, 111, 112, 32] ++ Lib.itoa 0 = _
    rw [show Lib.itoa 0 = [48] from e0]
    rfl
  have c3 : condT (3, noA, 3, [(1, ⟨#[88]⟩, zeroV)], [(2, ⟨#[]⟩, 1, 3, ⟨#[]⟩)]) = [91, 88, 32, 60, 32, 51, 93] := by
    show [91] ++ textX _ ++ [32] ++ howL 3 ++ [32] ++ textX _ ++ [93] = _
    rw [t2, t3]
    rfl
  unfold ruleT rkR
  simp only [List.map_cons, List.map_nil]
  rw [a1, a2, c3, joinC_two, joinC_two, joinC_one, joinC_two, joinC_one, itoa_neg5]
  rfl
end Go.Proofs.YtmeopfgadlofjaaGreatDoor.V
namespace Go.Proofs.YtmeopfgadlofjaaGreatDoor.Sb
open Go.RowKit
open V
open Ex (RowO LiesO flatO liesO_own)

theorem rk_is : isText rkT rkR := by
  obtain ⟨us, h1, h2⟩ := lexK_some rk_lex
  have hl : us.length = rkK.length := by rw [← h2, List.length_map]
  exact ⟨us, h1, by rw [hl]; decide, by rw [h2, hl]; exact rk_read⟩
theorem rk_no : noText rkU := by
  obtain ⟨us, h1, h2⟩ := lexK_some rk_lex2
  have hl : us.length = rkL.length := by rw [← h2, List.length_map]
  exact ⟨us, h1, by rw [hl]; decide, fun v h => by rw [h2, rk_read2] at h; cases h⟩
/-- A right rule of the call's own is not too long. -/
theorem right_soft {z : Rz} {w : World} {B : Nat} (h : z.Own w B) (hr : rightR z.pl = true) : z.Soft := by
  obtain ⟨h1, _, _, _, _, _, h7⟩ := right_iff.1 hr
  refine rz_soft h (cutR_right hr).symm h1 (fun a ha => ?_)
  have := h7 a ha
  unfold rightAct at this
  by_cases h1 : a.1 = 1
  · rw [if_pos h1] at this
    simp only [Bool.and_eq_true] at this
    exact Or.inr this.1
  · rw [if_neg h1] at this
    simp only [Bool.and_eq_true, decide_eq_true_eq] at this
    exact Or.inl this.2.1.1
theorem zero_in (w : World) : zeroRz.In w := ⟨⟨Or.inl rfl, Nat.le_refl _, Nat.le_refl _, fun _ => rfl, Nat.le_refl _, fun c hc => (by cases hc)⟩, ⟨Or.inl rfl, Nat.le_refl _, Nat.le_refl _, fun _ => rfl, Nat.le_refl _, fun c hc => (by cases hc)⟩⟩
theorem zero_soft : zeroRz.Soft := ⟨by decide, fun c hc => (by cases hc), fun c hc => (by cases hc)⟩
theorem zero_wrong : rightR zeroRz.pl = false := by decide
set_option maxHeartbeats 4000000 in
set_option maxRecDepth 100000 in
theorem wakes_any (w : World) (he : Env w) :
    Calls Tryz.prog 18 #[] w fun e w' => e = .returned (.bool true) ∧ Below w.heap.size w w' := by
  have F0 := rparse_ok ⟨#[114, 117, 108, 101, 32, 97, 32, 45, 53, 58, 32, 112, 40, 88, 41, 44, 32, 110, 111, 116, 32, 113, 40, 88, 41, 44, 32, 91, 88, 32, 60, 32, 51, 93, 32, 45, 62, 32, 43, 114, 40, 40, 88, 32, 43, 32, 49, 41, 41, 44, 32, 100, 114, 111, 112, 32, 48, 46]⟩ rkR w he (by decide) (hide rk_is)
  go_enter Tryz.func18, Tryz.ntmps18
  go_wp2_with fail
  refine F0.mono ?_
  rintro e w1 ⟨⟨z, rfl, ho, hpl⟩, hb1⟩
  have hR : rightR z.pl = true := by rw [hpl]; exact rk_right
  have hs := right_soft ho hR
  have hp : z.p = -5 := congrArg (fun x => x.2.1) hpl
  have hc3 : z.cl = 3 := by
    have e : (z.cs.map Cd.pl).length = 3 := congrArg (fun x => x.2.2.1.length) hpl
    rw [ho.cl]; simpa using e
  have ha2 : z.al = 2 := by
    have e : (z.zs.map Az.pl).length = 2 := congrArg (fun x => x.2.2.2.length) hpl
    rw [ho.al]; simpa using e
  have hbx := below_new w1 (bxR z)
  have T1 : BR _ _ z := br_of (heap_alloc_new w1 (bxR z))
  have ho1 := ho.on hbx
  have hw1 := bt hb1 hbx
  have HR := hide hR
  have HP := hide hpl
  have HD := hide (And.intro hp (And.intro hc3 ha2))
  clear F0 ho hb1 hbx hR hpl hp hc3 ha2
  obtain ⟨c0, c1, c2, c3⟩ := T1
  go_wp2_with fail
  have T1 := BR.mk (r := z) c0 c1 c2 c3
  clear c0 c1 c2 c3
  generalize hW : w1.alloc (bxR z) = W1 at T1 ho1 hw1 ⊢
  have F1 := rtext_right z W1 (he.on hw1) ho1.lies hs HR
  rw [unhide HP, rk_text] at F1
  refine F1.mono ?_
  rintro e w2 ⟨⟨ht, -⟩, hb2⟩
  have ht' := ht (by decide)
  rw [show bs rkT = ⟨#[114, 117, 108, 101, 32, 97, 32, 45, 53, 58, 32, 112, 40, 88, 41, 44, 32, 110, 111, 116, 32, 113, 40, 88, 41, 44, 32, 91, 88, 32, 60, 32, 51, 93, 32, 45, 62, 32, 43, 114, 40, 40, 88, 32, 43, 32, 49, 41, 41, 44, 32, 100, 114, 111, 112, 32, 48, 46]⟩ from rfl] at ht'
  subst ht'
  have T2 := T1.on hb2
  have hw2 := bt hw1 hb2
  clear F1 ho1 T1 hs ht hW
  go_wp2_with fail
  refine (rparse_no ⟨#[114, 117, 108, 101, 32, 97, 32, 48, 58, 32, 110, 111, 116, 32, 112, 32, 45, 62, 32, 43, 113, 46]⟩ w2 (he.on hw2) (by decide) (hide rk_no)).mono ?_
  rintro e w3 ⟨rfl, hb3⟩
  have hbz := below_new w3 zR
  have T3 := (T2.on hb3).on hbz
  have hw3 := bt (bt hw2 hb3) hbz
  obtain ⟨hp, hc3, ha2⟩ := unhide HD
  obtain ⟨-, c1, c2, c3⟩ := T3
  rw [hp] at c1
  rw [hc3] at c2
  rw [ha2] at c3
  clear T2 hw2 hb3 hw1 hb2 HD HR HP hp hc3 ha2 hbz
  go_wp2_with fail
  have FZ := check_any zeroRz _ (zero_in (w3.alloc zR)) zero_soft
  rw [zero_wrong] at FZ
  refine FZ.mono ?_
  rintro e w4 ⟨rfl, hb4⟩
  clear FZ c1 c2 c3
  rw [show chk false = 1 from rfl]
  go_wp2_with fail
  go_ret
  exact ⟨rfl, bt hw3 hb4⟩
end Go.Proofs.YtmeopfgadlofjaaGreatDoor.Sb
namespace Go.Proofs.YtmeopfgadlofjaaGreatDoor.V

theorem glue_len : ∀ {ps : List (List UInt8 × Tk)}, (∀ p ∈ ps, 1 ≤ p.2.2.1.length) → ps.length ≤ (glue ps).length
  | [], _ => Nat.le_refl _
  | p :: ps, h => by
    have h1 := h p (by simp)
    have h2 := glue_len (ps := ps) (fun q hq => h q (by simp [hq]))
    simp only [glue, List.length_cons, List.length_append]
    omega
theorem good_len {R : Int → List UInt8 → Bool} {t : Tk} (h : Good R t) : 1 ≤ t.2.1.length := by
  obtain ⟨_, _, _, r0, hr⟩ := h
  exact signL_pos hr
theorem rule_few {r : Rp} (h : rightR r = true) : (ruleK r).length + 3 ≤ (textR r).length := by
  have hf := rule_fine h
  have e : rulePs r = ([], 1, wordRule, 0) :: (rulePs r).tail := rfl
  unfold ruleK textR
  rw [List.length_map]
  have h2 := glue_len (ps := (rulePs r).tail) (fun p hp => good_len (hf p (List.mem_of_mem_tail hp)).1)
  rw [e]
  simp only [glue, List.length_cons, List.length_append, List.length_nil]
  have : wordRule.length = 4 := rfl
  omega
end Go.Proofs.YtmeopfgadlofjaaGreatDoor.V
namespace Go.Proofs.YtmeopfgadlofjaaGreatDoor.Sb
open Go.RowKit
open V
open Ex (RowO LiesO flatO liesO_own)

theorem text_is {v : Rp} (h : rightR v = true) (hl : (textR v).length ≤ 20000) : isText (textR v) v := by
  obtain ⟨us, h1, h2, h3⟩ := read_textR h 0
  refine ⟨us, h1, ?_, h3⟩
  have := rule_few h
  rw [← h2, List.length_map] at this
  omega
theorem none_text : noText [] := ⟨[], rfl, by decide, fun v h => by cases h⟩
/-- Few and short enough to be compared. -/
structure Rz.Fits (x : Rz) : Prop where
  c : x.cl ≤ 1000
  m : ∀ c ∈ x.cs, c.m ≤ 1000 ∧ c.ll ≤ 20000 ∧ c.rl ≤ 20000
  a : x.al ≤ 1000
  z : ∀ z ∈ x.zs, z.m ≤ 1000 ∧ ∀ e ∈ z.es, e.l ≤ 20000
theorem Rz.Light.fits {x : Rz} (h : x.Light) : x.Fits := ⟨by have := h.c; omega, fun c hc => by have := h.cs c hc; have := this.m; have := (h.cs c hc).l; have := (h.cs c hc).r; omega, by have := h.a; omega, fun z hz => ⟨by have := (h.zs z hz).m; omega, fun e he => by have := ((h.zs z hz).e e he).l; omega⟩⟩
theorem right_fits {x : Rz} {w : World} (hi : x.In w) (hs : x.Soft) (hr : rightR x.pl = true) : x.Fits := by
  obtain ⟨-, -, h3, -, h5, -, h7⟩ := right_iff.1 hr
  have e3 : (x.cs.map Cd.pl).length ≤ 6 := h3.2
  have e5 : (x.zs.map Az.pl).length ≤ 6 := h5.2
  rw [List.length_map] at e3 e5
  refine ⟨by have := hi.c.le; omega, fun c hc => by have := (hs.cs c hc).m; have := (hs.cs c hc).l; have := (hs.cs c hc).r; omega, by have := hi.a.le; omega, fun z hz => ⟨?_, fun e he => by have := ((hs.zs z hz).e e he).l; omega⟩⟩
  have hle := (hi.a.all z hz).le
  have h := h7 z.pl (List.mem_map.2 ⟨z, hz, rfl⟩)
  have hes : z.es.length ≤ 5 := by
    unfold rightAct at h
    by_cases h1 : z.pl.1 = 1
    · rw [if_pos h1] at h
      simp only [Bool.and_eq_true, decide_eq_true_eq] at h
      have : (z.es.map Ez.xs).length ≤ 5 := h.2.1
      simpa using this
    · rw [if_neg h1] at h
      simp only [Bool.and_eq_true, decide_eq_true_eq] at h
      have : z.es.map Ez.xs = [] := h.2.1.2
      rw [List.map_eq_nil_iff] at this
      rw [this]; simp
  omega
theorem keepR_f (x y : Rz) (q : Bool) (w : World) (hx : x.In w) (hy : y.In w) (hf : x.Fits) (HQ : Hid (q = true ↔ x.pl = y.pl)) :
    Calls Tryz.prog 15 #[aggR x, aggR y] w fun e w' => e = .returned (.bool q) ∧ Below w.heap.size w w' := keepRule_q x y q w hx hy hf.c hf.m hf.a hf.z HQ
/-- What rules.Text answers of any rule. -/
def TextU (v : Rp) (s : ByteArray) (c : Int) : Prop := (c = 0 ∧ rightR v = true ∧ s.data.toList = textR v ∧ (textR v).length ≤ 20000) ∨ (c ≠ 0 ∧ s = ⟨#[]⟩ ∧ (c = 1 ∨ c = 2) ∧ (rightR v = true → c = 2 ∧ 20000 < (textR v).length))
theorem rtext_u (r : Rz) (w : World) (he : Env w) (hr : r.In w) (hL : r.Soft) :
    Calls Tryz.prog 10 #[aggR r] w fun e w' => (∃ (s : ByteArray) (c : Int), e = .returned (.tuple #[.string s, .int .i64 c]) ∧ s.size ≤ 20000 ∧ Hid (TextU r.pl s c)) ∧ Below w.heap.size w w' := by
  cases h : rightR r.pl with
  | false =>
    refine (rtext_wrong r w hr hL (hide h)).mono ?_
    rintro e w' ⟨rfl, hb⟩
    exact ⟨⟨⟨#[]⟩, 1, rfl, by decide, hide (Or.inr ⟨by decide, rfl, Or.inl rfl, fun h' => by rw [h] at h'; cases h'⟩)⟩, hb⟩
  | true =>
    refine (rtext_right r w he hr hL (hide h)).mono ?_
    rintro e w' ⟨ht, hb⟩
    by_cases hl : (textR r.pl).length ≤ 20000
    · exact ⟨⟨bs (textR r.pl), 0, ht.1 hl, by show (textR r.pl).toArray.size ≤ _; simpa using hl, hide (Or.inl ⟨rfl, h, by simp, hl⟩)⟩, hb⟩
    · exact ⟨⟨⟨#[]⟩, 2, ht.2 (by omega), by decide, hide (Or.inr ⟨by decide, rfl, Or.inr rfl, fun _ => ⟨rfl, by omega⟩⟩)⟩, hb⟩
/-- What rules.Parse answers of what rules.Text answered. -/
theorem rparse_u (s : ByteArray) (v : Rp) (c : Int) (w : World) (he : Env w) (hs : s.size ≤ 20000) (H : Hid (TextU v s c)) :
    Calls Tryz.prog 12 #[.string s] w fun e w' => (∃ (z : Rz) (g : Int), e = .returned (.tuple #[aggR z, .int .i64 g]) ∧ z.In w' ∧ z.Fits ∧ Hid (c = 0 → g = 0 ∧ z.pl = v)) ∧ Below w.heap.size w w' := by
  rcases unhide H with ⟨hc, hr, ht, hl⟩ | ⟨hc, hse, -⟩
  · refine (rparse_ok s v w he hs (hide (by rw [ht]; exact text_is hr hl))).mono ?_
    rintro e w' ⟨⟨z, rfl, ho, hp⟩, hb⟩
    have hrz : rightR z.pl = true := by rw [hp]; exact hr
    exact ⟨⟨z, 0, rfl, ho.lies, right_fits ho.lies (right_soft ho hrz) hrz, hide (fun _ => ⟨rfl, hp⟩)⟩, hb⟩
  · subst hse
    refine (rparse_no ⟨#[]⟩ w he hs (hide none_text)).mono ?_
    rintro e w' ⟨rfl, hb⟩
    exact ⟨⟨zeroRz, 7, rfl, zero_in _, ⟨by decide, fun c hc => (by cases hc), by decide, fun c hc => (by cases hc)⟩, hide (fun h => absurd h hc)⟩, hb⟩
/-- What rules.Read answers, from any place on. -/
theorem rread_u (a : Option Addr) (n c : Nat) (xs : List Tm) (i : Int) (w : World) (he : Env w) (hl : LiesT w a n c xs) (hn : n ≤ 300) (hx : ∀ x ∈ xs, x.2.1.size ≤ 200) :
    Calls Tryz.prog 11 #[.slice a n c, .int .i64 i] w fun e w' => (∃ (z : Rz) (p g : Int), e = .returned (.tuple #[aggR z, .int .i64 p, .int .i64 g]) ∧ z.In w' ∧ (g = 0 → rightR z.pl = true ∧ z.Soft ∧ i < p ∧ p ≤ n)) ∧ Below w.heap.size w w' := by
  by_cases h : i < 0 ∨ (n : Int) < i
  · refine (rread_arg a n c i w h).mono ?_
    rintro e w' ⟨rfl, hb⟩
    exact ⟨⟨zeroRz, 0, 1, rfl, zero_in _, fun h => by cases h⟩, hb⟩
  · obtain ⟨p, rfl⟩ : ∃ p : Nat, i = p := ⟨i.toNat, by omega⟩
    have G : Sg w a n c xs := ⟨he, hl, hide (fun x h => by have := hx x h; omega), by omega⟩
    refine (rread_any a n c xs p _ w G (by omega) (hide rfl)).mono ?_
    intro e w' hres
    cases hr : readR (xs.map ktm) p with
    | error q =>
      rw [hr] at hres
      obtain ⟨rfl, hb⟩ := hres
      exact ⟨⟨zeroRz, q, 7, rfl, zero_in _, fun h => by cases h⟩, hb⟩
    | ok x =>
      rw [hr] at hres
      obtain ⟨⟨z, rfl, ho, hp⟩, hb⟩ := hres
      have hrz : rightR z.pl = true := by rw [hp]; exact readR_right hr
      have hbd := readR_bounds (by rw [G.len]; omega) hr
      rw [G.len] at hbd
      exact ⟨⟨z, x.2, 0, rfl, ho.lies, fun _ => ⟨hrz, right_soft ho hrz, by omega, by omega⟩⟩, hb⟩
end Go.Proofs.YtmeopfgadlofjaaGreatDoor.Sb
