/- The walk of constablelaw05.SubstBoth: it answers true, whatever the lists. -/
import Derived.Test.YtmhpoommgdjbiaaSubW
namespace Go.Proofs.Ytmhpoommgdjbiaa
open Go.RowKit
open V

theorem list_single {x : Bb} (h : rightBd x = true) : listB [x] = true := by simp [listB, riseB, h]
theorem un_nil {xs : List Bb} (h : listB xs = true) : unL xs [] = xs := un_eq (list_rise h) (by simp)
theorem drop_list {xs ys : List Bb} (h : listB (unL xs ys) = true) (r : Nat) : listB (unL xs (ys.drop r)) = true :=
  list_sub h (rise_un _ _) (fun _ hx => mem_un.2 ((mem_un.1 hx).imp id List.mem_of_mem_drop))
theorem step_un {xs ys : List Bb} (hy : listB ys = true) (h : listB (unL xs ys) = true) {p : Nat} (hp : p < ys.length) : bothR (unL xs (ys.drop (p + 1))) [ys[p]] = (unL xs (ys.drop p), true) := by
  have e : unL (unL xs (ys.drop (p + 1))) [ys[p]] = unL xs (ys.drop p) := un_eq (rise_un _ _) (fun x => by
    rw [mem_un, mem_un, List.drop_eq_getElem_cons hp, List.mem_cons, List.mem_singleton, or_assoc, Or.comm (a := x = ys[p])])
  rw [both_t (drop_list h _) (list_single (list_right hy (List.getElem_mem hp))) (by rw [e]; exact drop_list h _), e]
theorem lt_un {xs ys : List Bb} (hx : ∀ x ∈ xs, Lt x) (hy : ∀ x ∈ ys, Lt x) : ∀ x ∈ unL xs ys, Lt x := fun x h => by
  rcases mem_un.1 h with h | h
  · exact hx x h
  · exact hy x h
theorem lt_drop {ys : List Bb} (hy : ∀ x ∈ ys, Lt x) (r : Nat) : ∀ x ∈ ys.drop r, Lt x := fun x h => hy x (List.mem_of_mem_drop h)

/-- What is put, with what stays of memory. -/
theorem put_k (a : Option Addr) (len cap : Nat) (xs us : List Bb) (x : Bb) (ok : Bool) (w : World) (hx : Lies w a len cap xs) (h1k : len ≤ 400) (hL : ∀ x ∈ xs, Lt x) (hn : Lt x) (H : Hid (bothR xs [x] = (us, ok))) :
    Calls Try.prog 11 #[.slice a len cap, .string x.1, .agg #[.int .i64 x.2.1, .int .i64 x.2.2.1, .string x.2.2.2]] w fun e w' => ∃ (q : Option Addr) (m c : Nat), e = .returned (.tuple #[.slice q m c, .bool ok]) ∧ Lies w' q m c us ∧ Below w.heap.size w w' ∧ (∀ b o v, w.cell? ⟨b, o, none⟩ = some v → w'.cell? ⟨b, o, none⟩ = some v) := by
  refine (put_any a len cap xs us x.1 x.2 ok w hx h1k hL hn.1 hn.2 H).mono ?_
  rintro e w' ⟨q, m, c, rfl, h1, h2⟩
  exact ⟨q, m, c, rfl, h1, h2, fun b o v h => cell_on h2 h⟩
theorem lies_drew {w : World} {a : Option Addr} {n cap : Nat} {xs : List Bb} (h : Lies w a n cap xs) : Lies w.drew a n cap xs := h.on (Below.refl _ _).drew
theorem keep_t (a a' : Option Addr) (len cap len' cap' : Nat) (xs ys : List Bb) (w : World) (hx : Lies w a len cap xs) (hy : Lies w a' len' cap' ys) (h1k : len ≤ 1000) (H : xs = ys) :
    Calls Try.prog 15 #[.slice a len cap, .slice a' len' cap'] w fun e w' => e = .returned (.bool true) ∧ Below w.heap.size w w' := by
  have := keepBinds_any a a' len len' cap cap' xs ys w hx.row hy.row hx.le hx.ge hy.le hy.ge h1k
  rw [decide_eq_true H] at this
  exact this
theorem scheck_x (a : Option Addr) (len cap : Nat) (xs : List Bb) (n : Int) (w : World) (hx : Lies w a len cap xs) (hL : ∀ x ∈ xs, Lt x) (H : Hid (chk (listB xs) = n)) :
    Calls Try.prog 17 #[.slice a len cap] w fun e w' => e = .returned (.int .i64 n) ∧ Below w.heap.size w w' := by
  have := scheck_any a len cap xs w hx.row hx.le hx.ge hL
  rw [unhide H] at this
  exact this

set_option maxHeartbeats 8000000 in
set_option maxRecDepth 100000 in
theorem both_law (al am : Option Addr) (ll cl lm cm : Nat) (xs ys : List Bb) (w : World) (hx : Lies w al ll cl xs) (hy : Lies w am lm cm ys) :
    Calls Try.prog 5 #[.slice al ll cl, .slice am lm cm] w fun e w' => e = .returned (.bool true) ∧ Below w.heap.size w w' := by
  have hm1 := heavy_any al ll cl xs w hx.row hx.le hx.ge
  have hm2 := fun W hb => heavy_any am lm cm ys W (hy.on hb).row hy.le hy.ge
  go_enter Try.func5, Try.ntmps5
  go_wp2_with fail
  refine hm1.mono ?_
  rintro e w1 ⟨rfl | ⟨rfl, hl1, hLx⟩, hb1⟩
  · clear hm1 hm2
    go_wp2_with fail
    go_ret
    exact ⟨rfl, hb1⟩
  have hm2' := hm2 w1 hb1
  clear hm1 hm2
  go_wp2_with fail
  refine hm2'.mono ?_
  rintro e w2 ⟨rfl | ⟨rfl, hl2, hLy⟩, hb2⟩
  · have hw2 := bt hb1 hb2
    clear hm2'
    go_wp2_with fail
    go_ret
    exact ⟨rfl, hw2⟩
  have hw2 := bt hb1 hb2
  clear hm2' hb1 hb2
  obtain ⟨⟨us, ok⟩, hu⟩ : ∃ r, bothR xs ys = r := ⟨_, rfl⟩
  have HU := hide hu
  have HU' := hide ((both_comm ys xs).trans hu)
  have hc1 := both_any al am ll cl lm cm xs ys us ok w2 (hx.on hw2) (hy.on hw2) (by omega) (by omega) hLx hLy HU
  clear hu
  go_wp2_with fail
  refine hc1.mono ?_
  rintro e w3 ⟨q1, n1, k1, rfl, hT1, hb3⟩
  have hw3 := bt hw2 hb3
  have hc2 := both_any am al lm cm ll cl ys xs us ok w3 (hy.on hw3) (hx.on hw3) (by omega) (by omega) hLy hLx HU'
  clear hc1 hw2 hb3 HU'
  go_wp2_with fail
  refine hc2.mono ?_
  rintro e w4 ⟨q2, n2, k2, rfl, hT2, hb4⟩
  have hw4 := bt hw3 hb4
  have T1 := hT1.on hb4
  have hn1 : n1 ≤ 100 := by rw [T1.len]; exact list_len (both_list (unhide HU))
  have hc3 := keep_t q1 q2 n1 k1 n2 k2 us us w4 T1 hT2 (by omega) rfl
  clear hc2 hw3 hb4 hT1 hT2
  have hbo : (ok != ok) = false := by simp
  go_wp2_with fail
  refine hc3.mono ?_
  rintro e w5 ⟨rfl, hb5⟩
  have hw5 := bt hw4 hb5
  replace T1 := T1.on hb5
  clear hc3 hw4 hb5 hbo
  cases ok with
  | false =>
    have hu := both_no (unhide HU)
    subst hu
    obtain rfl : n1 = 0 := T1.len
    clear T1
    go_wp2_with fail
    refine (wakes_any w5).mono ?_
    rintro e w6 ⟨rfl, hb6⟩
    go_wp2_with fail
    go_ret
    exact ⟨rfl, bt hw5 hb6⟩
  | true =>
    obtain ⟨g1, g2, g3, g4⟩ := both_ok (unhide HU)
    have HX := hide g1
    have HY := hide g2
    have H3 := hide g3
    have H4 := hide g4
    clear g1 g2 g3 g4 HU
    have HLM := hide hy.len
    have hlm1 : lm ≤ ys.length := hy.le
    have hlm2 : ys.length ≤ lm := hy.ge
    have HLU : Hid (∀ x ∈ us, Lt x) := hide (by rw [unhide H4]; exact lt_un hLx hLy)
    go_wp2_with fail
    go_loopw [9, 10, 11, 12] (fun z i _ _ wr => ∃ (r n c : Nat) (q : Option Addr), r ≤ lm ∧ i = .int .i64 ((r : Int) - 1) ∧ z = .slice q n c ∧ n ≤ 110 ∧ Lies wr q n c (unL xs (ys.drop r)) ∧ Below w5.heap.size w5 wr) (fun _ i _ _ _ => (intOf i + 1).toNat)
    case atStart => exact ⟨lm, ll, cl, al, Nat.le_refl _, rfl, rfl, hl1, by rw [List.drop_of_length_le hlm2, un_nil (unhide HX)]; exact hx.on hw5, Below.refl _ _⟩
    case round =>
      obtain ⟨r, n, c, q, hr, rfl, rfl, hn, hZ, hbw⟩ := hrel
      have hww := bt hw5 hbw
      cases r with
      | zero =>
        have T := T1.on hbw
        rw [List.drop_zero, ← unhide H4] at hZ
        have hc1 := keep_t q1 q n1 k1 n c us us wr T hZ (by omega) rfl
        have hc2 := fun W (hb : Below wr.heap.size wr W) => scheck_x q1 n1 k1 us 0 W (T.on hb) (unhide HLU) (hide (chk_t (unhide H3)))
        have ht : decide ((0 : Int) ≤ ((0 : Nat) : Int) - 1) = false := by decide
        clear T1 hZ T hx hy
        go_wp2_with fail
        refine hc1.mono ?_
        rintro e w6 ⟨rfl, hb6⟩
        have hc2' := hc2 w6 hb6
        have hw6 := bt hww hb6
        clear hc1 hc2 hb6 hww
        go_wp2_with fail
        refine hc2'.mono ?_
        rintro e w7 ⟨rfl, hb7⟩
        have hw7 := bt hw6 hb7
        clear hc2' hb7 hw6
        go_wp2_with fail
        refine (wakes_any w7).mono ?_
        rintro e w8 ⟨rfl, hb8⟩
        have hw8 := bt hw7 hb8
        clear hb8 hw7
        go_wp2_with fail
        go_ret
        exact ⟨rfl, hw8⟩
      | succ p =>
        obtain ⟨b, o, ha, hbl, c0, c1, c2, c3⟩ := (hy.on hww).row.up (show p < ys.length by omega)
        subst ha
        have ly := hLy ys[p] (List.getElem_mem (by omega))
        have HS := hide (step_un (xs := xs) (unhide HY) (by rw [← unhide H4]; exact unhide H3) (show p < ys.length by omega))
        have hLz := lt_un hLx (lt_drop hLy (p + 1))
        have e1 : (((p + 1 : Nat) : Int) - 1) = (p : Int) := by omega
        rw [e1]
        have e4 : IntKind.i64.wrap ((p : Int) - 1) = (p : Int) - 1 := by simp [IntKind.wrap, IntKind.bits, IntKind.signed]; omega
        have hpl : p < lm := by omega
        have e2 : (p : Int) < (lm : Int) := by omega
        have e3 : (0 : Int) ≤ (p : Int) := by omega
        have hZd := lies_drew hZ
        have hsz : (n : Nat) ≤ 400 := by omega
        generalize ys[p] = x at c0 c1 c2 c3 ly HS
        generalize unL xs (ys.drop (p + 1)) = zs at HS hZ hLz hZd
        have hlen : (unL xs (ys.drop p)).length ≤ 100 := list_len (drop_list (by rw [← unhide H4]; exact unhide H3) p)
        have HLEN := hide hlen
        clear hlen
        go_wp2_with fail
        go_region_held3 (fun w' => w'.cell? ⟨b, o + p * 4, none⟩ = some (.string x.1) ∧ w'.cell? ⟨b, o + p * 4 + 1, none⟩ = some (.int .i64 x.2.1) ∧ w'.cell? ⟨b, o + p * 4 + 2, none⟩ = some (.int .i64 x.2.2.1) ∧ w'.cell? ⟨b, o + p * 4 + 3, none⟩ = some (.string x.2.2.2)) (go_keep) (first | (go_at_call 11; refine (put_k q n c zs _ x true _ hZd hsz hLz ly HS).mono ?_; rintro e w7 ⟨q7, m7, c7, rfl, hl7, hb7, hk7⟩))
        have hbw7 : Below w5.heap.size w5 w7 := bt hbw.drew hb7
        have hm7 : m7 ≤ 110 := by have := hl7.len; have := unhide HLEN; omega
        clear c0 c1 c2 c3 hk7 hb7 hZ hZd hLz HS
        go_wp2_with fail
        go_roundw
        case rel => exact ⟨p, m7, c7, q7, by omega, by go_num, rfl, hm7, hl7, hbw7⟩
        case measure => simp [intOf]
end Go.Proofs.Ytmhpoommgdjbiaa
