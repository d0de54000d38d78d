/- What expr.Part and the document's Part answer. -/
import Derived.Test.YtnomndpoklolfaaExpH
import Derived.Test.YtnomndpoklolfaaExpS
namespace Go.Proofs.Ytnomndpoklolfaa.Sb
open Go.RowKit
open V
open Ex (RowO LiesO flatO)

/-- Where a part begins; -1 where there is none. -/
def partR (l : List Oo) (e : Int) : Int := if exprB l = true ∧ 0 ≤ e ∧ e < l.length then partL l e.toNat else -1

theorem infoI : (Try.prog.info? 3).map (fun i => (i.zero, i.size, i.bytes)) = some (some (.int .i64 0), 1, 8) := by kernel_rfl
abbrev nums (f : List Nat) : List Value := f.map (fun (a : Nat) => Value.int .i64 (a : Int))

/-- A number of a row that the call owns. -/
theorem ownI_at {w : World} {B n cs : Nat} {s : Option Addr} {f : List Nat} (h : w.ownsRow B 3 1 (.slice s n cs) n (nums f)) {i : Nat} {x : Nat} (hx : f[i]? = some x) : ∃ g, s = some ⟨g, 0, none⟩ ∧ B ≤ g ∧ g < w.heap.size ∧ n = f.length ∧ n ≤ cs ∧ w.cell? ⟨g, i, none⟩ = some (.int .i64 x) := by
  have hn : n = f.length := by have := h.1; simp at this; omega
  have hi : i < n := by rw [hn]; exact (List.getElem?_eq_some_iff.1 hx).1
  rcases h.2 with ⟨hv, h0⟩ | ⟨g, cap, cur, hv, hB, hg, hc, _, _, ht⟩
  · omega
  · simp only [Value.slice.injEq] at hv
    obtain ⟨rfl, _, rfl⟩ := hv
    have h0 : (nums f)[i]? = some (.int .i64 x) := by rw [nums, List.getElem?_map, hx]; rfl
    rw [← ht] at h0
    rw [List.getElem?_take_of_lt (by omega), Array.getElem?_toList] at h0
    refine ⟨g, rfl, hB, (Array.getElem?_eq_some_iff.1 hg).1, hn, hc, ?_⟩
    rw [Lib.cell_of_heap hg]
    exact h0

theorem part_no (a : Option Addr) (len cap : Nat) (xs : List Oo) (e : Int) (w : World) (hrow : RowO w a xs) (hl : len ≤ xs.length) (hl' : xs.length ≤ len) (hL : ∀ x ∈ xs, LtO x) (h1k : len ≤ 1000) (H : Hid (exprB xs = false)) :
    Calls Try.prog 22 #[.slice a len cap, .int .i64 e] w fun r w' => r = .returned (.int .i64 (-1)) ∧ Below w.heap.size w w' := by
  have hc := echeck_any a len cap xs w hrow hl hl' hL h1k
  rw [chk_f (unhide H)] at hc
  clear hL hrow
  go_enter Try.func22, Try.ntmps22
  go_wp2_with fail
  refine hc.mono ?_
  rintro r w1 ⟨rfl, hb1⟩
  clear hc
  go_wp2_with fail
  go_ret
  exact ⟨rfl, hb1⟩
theorem part_out (a : Option Addr) (len cap : Nat) (xs : List Oo) (e : Int) (w : World) (hrow : RowO w a xs) (hl : len ≤ xs.length) (hl' : xs.length ≤ len) (hL : ∀ x ∈ xs, LtO x) (h1k : len ≤ 1000) (H : Hid (exprB xs = true)) (he : decide (e < 0) = true ∨ decide (e < 0) = false ∧ decide ((len : Int) ≤ e) = true) :
    Calls Try.prog 22 #[.slice a len cap, .int .i64 e] w fun r w' => r = .returned (.int .i64 (-1)) ∧ Below w.heap.size w w' := by
  have hc := echeck_any a len cap xs w hrow hl hl' hL h1k
  rw [chk_t (unhide H)] at hc
  clear hL hrow
  rcases he with he | ⟨he, he'⟩
  all_goals
    go_enter Try.func22, Try.ntmps22
    go_wp2_with fail
    refine hc.mono ?_
    rintro r w1 ⟨rfl, hb1⟩
    clear hc
    go_wp2_with fail
    go_ret
    exact ⟨rfl, hb1⟩

set_option maxHeartbeats 2000000 in
theorem part_in (a : Option Addr) (len cap : Nat) (xs : List Oo) (e : Nat) (w : World) (hrow : RowO w a xs) (hl : len ≤ xs.length) (hl' : xs.length ≤ len) (hL : ∀ x ∈ xs, LtO x) (hcap : len ≤ cap) (H : Hid (exprB xs = true)) (he : e < len) :
    Calls Try.prog 22 #[.slice a len cap, .int .i64 (e : Int)] w fun r w' => r = .returned (.int .i64 (partL xs e)) ∧ Below w.heap.size w w' := by
  obtain ⟨i0, hi, hz0, hz1, hz2⟩ := info_parts infoI
  have hx := expr_iff.1 (unhide H)
  have h15 : len ≤ 15 := by omega
  have HR := hide hx.2.2
  have hc := echeck_any a len cap xs w hrow hl hl' hL (by omega)
  rw [chk_t (unhide H)] at hc
  clear hx hL
  obtain ⟨b, o, ha, -⟩ := hrow.up (show 0 < xs.length by omega)
  subst ha
  have d0 : decide ((e : Int) < 0) = false := decide_eq_false (by omega)
  have d1 : decide ((len : Int) ≤ (e : Int)) = false := decide_eq_false (by omega)
  have d2 : decide (len ≤ e) = false := decide_eq_false (by omega)
  go_enter Try.func22, Try.ntmps22
  go_wp2_with fail
  refine hc.mono ?_
  rintro r w1 ⟨rfl, hb1⟩
  clear hc
  have hrow1 := hrow.on hb1
  go_wp2_with fail
  go_loopw [5, 6, 7, 26] (fun sv _ _ i wr => ∃ (k n c : Nat) (s : Option Addr) (f : List Nat), k ≤ e + 1 ∧ i = .int .i64 k ∧ sv = .slice s n c ∧ Hid (Firsts xs k f) ∧ wr.ownsRow w1.heap.size 3 1 (.slice s n c) n (nums f) ∧ Below w1.heap.size w1 wr) (fun _ _ _ i _ => e + 1 - (intOf i).toNat)
  case atStart => exact ⟨0, 0, 0, none, [], Nat.zero_le _, rfl, rfl, hide (firsts_zero xs), World.ownsRow_nil _ _ _ _, Below.refl _ _⟩
  case round =>
    obtain ⟨k, n, c, s, f, hk, rfl, rfl, HK, hown, hbw⟩ := hrel
    have hn : n = f.length := by have := hown.1; simp at this; omega
    have hn15 : n ≤ 100 := by
      have h1 := (unhide HK).1
      have h2 := dep_le (unhide HR) k (by omega)
      omega
    by_cases hlt : k < e + 1
    · obtain ⟨b', o', ha, hbl, c0, c1, c2, c3, c4⟩ := (hrow1.on hbw).up (show k < xs.length by omega)
      simp only [Option.some.injEq, Addr.mk.injEq, and_true] at ha
      obtain ⟨rfl, rfl⟩ := ha
      have hbx : Below w1.heap.size w1 (wr.alloc (bxO xs[k])) := hbw.alloc hbw.size _
      have hown0 := hown.alloc (bxO xs[k])
      cases hp : pushO xs[k] with
      | true =>
        have HN := hide (firsts_push (unhide HR) (show k < xs.length by omega) (unhide HK) hp)
        have HP := hide hp
        clear hp hn
        generalize xs[k] = t at c0 c1 c2 c3 c4 hbx HP hown0
        go_wp2_with fail
        refine (pushes_q t true _ HP).mono ?_
        rintro r w2 ⟨rfl, hb2⟩
        have hw2 := hbx.trans (hb2.mono hbx.size)
        have hown2 := own_on hown0 hb2
        have hsz : w1.heap.size ≤ w2.heap.size := hw2.size
        clear hbx hb2 hown0 hown c0 c1 c2 c3 c4 hbw
        go_wp2_with (at_builtin; refine wpList_append_own _ rfl _ _ 51 rfl w1.heap.size 3 i0 (.int .i64 0) 1 8 Try.underlying51 hi hz0 hz1 hz2 rfl (by decide) _ _ _ rfl (hown2.alloc _) ⟨w2.heap.size, 0, none⟩ 1 1 [.int .i64 (k : Int)] rfl rfl (cell_one_new _ _ _) (by simp [Value.oneCell']) (by unfold maxLen; omega) (by omega) (by simp; omega) ?_; intro v' w3 hown3 hgrow3 hnil3)
        obtain ⟨aq, cq, rfl⟩ := own_slice hown3
        have hw3 := (hw2.alloc hw2.size (.cells #[.int .i64 (k : Int)] 3)).grown hgrow3 (by simp; omega) (fun j hj => by have := (hown2.lt j hj).1; omega)
        clear hgrow3 hnil3 hown2
        go_wp2_with fail
        go_roundw
        case rel => exact ⟨k + 1, n + 1, cq, aq, f ++ [k], by omega, by go_num, rfl, HN, by simpa [nums] using hown3, hw3⟩
        case measure => simp [intOf]; omega
      | false =>
        obtain ⟨hf2, hN⟩ := firsts_take (unhide HR) (show k < xs.length by omega) (unhide HK) hp
        have HN := hide hN
        have HP := hide hp
        obtain ⟨m, rfl⟩ : ∃ m, n = m + 1 := ⟨n - 1, by omega⟩
        have HF := hide (show f.length - 1 = m by omega)
        obtain ⟨g, hg, -, -, -, hnc, -⟩ := ownI_at (i := 0) (x := f[0]'(by omega)) hown (by simp)
        subst hg
        have hc2 := own_cut hown0 (show m ≤ m + 1 by omega)
        clear hp hn hN hf2
        generalize xs[k] = t at c0 c1 c2 c3 c4 hbx HP hown0 hc2
        go_wp2_with fail
        refine (pushes_q t false _ HP).mono ?_
        rintro r w2 ⟨rfl, hb2⟩
        have hw2 := hbx.trans (hb2.mono hbx.size)
        have hown2 := own_on hc2 hb2
        have e1 : (m : Int) ≤ (c : Int) := by omega
        have e2 : (0 : Int) ≤ (m : Int) := by omega
        clear hbx hb2 hown0 hown c0 c1 c2 c3 c4 hbw hc2
        go_wp2_with fail
        go_roundw
        case rel => exact ⟨k + 1, m, c, _, f.take (f.length - 1), by omega, by go_num, rfl, HN, by rw [unhide HF]; simpa [nums, List.map_take] using hown2, hw2⟩
        case measure => simp [intOf]; omega
    · obtain rfl : k = e + 1 := by omega
      obtain ⟨x, hx, h1, hpx⟩ := firsts_last (unhide HR) (show e < xs.length by omega) (unhide HK)
      obtain ⟨m, rfl⟩ : ∃ m, n = m + 1 := ⟨n - 1, by omega⟩
      rw [show f.length - 1 = m by omega] at hx
      obtain ⟨g, hg, -, hgl, -, hnc, y0⟩ := ownI_at hown hx
      subst hg
      have HPX := hide hpx
      have hww := bt hb1 hbw
      clear hx hpx hown hn h1 hbw
      have e2 : (0 : Int) ≤ (m : Int) := by omega
      have e3 : (m : Int) < (m : Int) + 1 := by omega
      go_wp2_with fail
      go_ret
      exact ⟨ret_int (unhide HPX).symm, hww⟩

/-- What Part answers, whatever it is handed. -/
theorem part_any (a : Option Addr) (len cap : Nat) (xs : List Oo) (e r : Int) (w : World) (hA : LiesO w a len cap xs) (hL : ∀ x ∈ xs, LtO x) (h1k : len ≤ 1000) (H : Hid (partR xs e = r)) :
    Calls Try.prog 22 #[.slice a len cap, .int .i64 e] w fun q w' => q = .returned (.int .i64 r) ∧ Below w.heap.size w w' := by
  have h := unhide H
  unfold partR at h
  have hlen := hA.len
  by_cases hx : exprB xs = true
  · by_cases he : 0 ≤ e ∧ e < len
    · rw [if_pos ⟨hx, he.1, by omega⟩] at h
      subst h
      obtain ⟨k, rfl⟩ := Int.eq_ofNat_of_zero_le he.1
      exact part_in a len cap xs k w hA.row hA.le hA.ge hL hA.cap (hide hx) (by omega)
    · rw [if_neg (fun q => he ⟨q.2.1, by omega⟩)] at h
      subst h
      refine part_out a len cap xs e w hA.row hA.le hA.ge hL h1k (hide hx) ?_
      by_cases h0 : e < 0
      · exact Or.inl (decide_eq_true h0)
      · exact Or.inr ⟨decide_eq_false h0, decide_eq_true (by omega)⟩
  · rw [if_neg (fun q => hx q.1)] at h
    subst h
    exact part_no a len cap xs e w hA.row hA.le hA.ge hL h1k (hide (by simpa using hx))
end Go.Proofs.Ytnomndpoklolfaa.Sb
