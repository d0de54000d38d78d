/- What constablekeep.Tokens, the law's own Heavy and place answer. -/
import Derived.Test.YtaapeleoiclplaaDoorLexM
import Derived.Deep.QuietTactic
namespace Go.Proofs.YtaapeleoiclplaaDoor
open Go.RowKit
open V

theorem toList_inj {a b : ByteArray} : a.toList = b.toList ↔ a = b := by
  rw [ByteArray.toList_eq, ByteArray.toList_eq]
  refine ⟨fun h => ?_, fun h => by rw [h]⟩
  obtain ⟨⟨x⟩⟩ := a
  obtain ⟨⟨y⟩⟩ := b
  simp at h
  rw [h]
theorem eqP_in (a b a' b' : Int) (w : World) : (Op.equalIn 9999 25 (.agg #[.int .i64 a, .int .i64 b]) (.agg #[.int .i64 a', .int .i64 b'])).run Tryd.prog w = .ok (decide (a = a' ∧ b = b')) w := by
  have u3 := Tryd.underlying3
  have a3 := Tryd.isAgg3
  have z3 := Tryd.sizeOf3
  have hS : Tryd.prog.underlying 25 = some (.struct (Tryd.prog.fieldsOf 25)) := by kernel_rfl
  have hp : Tryd.prog.stoodInHeld 25 = false := by kernel_rfl
  rw [show (9999 : Nat) = 9998 + 1 from rfl, run_equalIn_agg w 9998 25 _ _ hS hp]
  simp only [Program.fieldsOf, Tryd.underlying25]
  clear hS hp
  go_simp
  by_cases h1 : a = a' <;> by_cases h2 : b = b' <;> simp [h1, h2]
theorem eqT_in (x y : Tm) (w : World) : (Op.equalIn 10000 30 (.agg #[.int .i64 x.1, .string x.2.1, .int .i64 x.2.2.1, .int .i64 x.2.2.2]) (.agg #[.int .i64 y.1, .string y.2.1, .int .i64 y.2.2.1, .int .i64 y.2.2.2])).run Tryd.prog w = .ok (decide (x = y)) w := by
  have u3 := Tryd.underlying3
  have a3 := Tryd.isAgg3
  have z3 := Tryd.sizeOf3
  have u9 := Tryd.underlying9
  have a9 := Tryd.isAgg9
  have z9 := Tryd.sizeOf9
  have a25 := Tryd.isAgg25
  have z25 := Tryd.sizeOf25
  have hS : Tryd.prog.underlying 30 = some (.struct (Tryd.prog.fieldsOf 30)) := by kernel_rfl
  have hp : Tryd.prog.stoodInHeld 30 = false := by kernel_rfl
  have hV := eqP_in
  rw [show (10000 : Nat) = 9999 + 1 from rfl, run_equalIn_agg w 9999 30 _ _ hS hp]
  simp only [Program.fieldsOf, Tryd.underlying30]
  clear hS hp
  go_simp
  simp only [toList_inj]
  obtain ⟨k, n, a, b⟩ := x
  obtain ⟨k', n', a', b'⟩ := y
  by_cases hk : k = k' <;> by_cases h0 : n = n' <;> by_cases h1 : a = a' <;> by_cases h2 : b = b' <;> simp [hk, h0, h1, h2]

theorem listT_ne {xs ys : List Tm} {k : Nat} (hx : k < xs.length) (hy : k < ys.length) (h : xs[k] ≠ ys[k]) : xs ≠ ys := by
  intro e
  subst e
  exact h rfl
theorem takeT_same {xs ys : List Tm} {k : Nat} (hx : k < xs.length) (hy : k < ys.length) (h : xs[k] = ys[k]) (hp : xs.take k = ys.take k) : xs.take (k + 1) = ys.take (k + 1) := by
  rw [List.take_succ_eq_append_getElem hx, List.take_succ_eq_append_getElem hy, hp, h]

set_option maxHeartbeats 2000000 in
theorem keepT_any (a a' : Option Addr) (len len' cap cap' : Nat) (xs ys : List Tm) (w : World) (hr : RowT w a xs) (hr' : RowT w a' ys) (hl : len ≤ xs.length) (hl' : xs.length ≤ len) (hm : len' ≤ ys.length) (hm' : ys.length ≤ len') (h1k : len ≤ 20000) :
    Calls Tryd.prog 10 #[.slice a len cap, .slice a' len' cap'] w fun e w' => e = .returned (.bool (decide (xs = ys))) ∧ Below w.heap.size w w' := by
  by_cases hll : len = len'
  · subst hll
    go_enter Tryd.func10, Tryd.ntmps10
    go_wp2_with fail
    go_loopw [5] (fun i wr => ∃ k : Nat, k ≤ len ∧ i = .int .i64 k ∧ Hid (xs.take k = ys.take k) ∧ (∃ d, wr = w.drewN d)) (fun i _ => len - (intOf i).toNat)
    case atStart => exact ⟨0, Nat.zero_le _, rfl, hide (by simp), 0, rfl⟩
    case round =>
      obtain ⟨k, hk, rfl, HK, d, rfl⟩ := hrel
      by_cases hlt : k < len
      · obtain ⟨b, o, ha, hbl, c0, c1, c2, c3⟩ := hr.up (show k < xs.length by omega)
        obtain ⟨b', o', ha', hbl', c0', c1', c2', c3'⟩ := hr'.up (show k < ys.length by omega)
        subst ha
        subst ha'
        have hE := eqT_in xs[k] ys[k]
        by_cases heq : xs[k] = ys[k]
        · have HN := hide (takeT_same (show k < xs.length by omega) (show k < ys.length by omega) heq (unhide HK))
          rw [decide_eq_true heq] at hE
          clear heq
          generalize xs[k] = x at c0 c1 c2 c3 hE
          generalize ys[k] = y at c0' c1' c2' c3' hE
          go_wp2_with fail
          go_quiet (fail)
          go_wp2_with fail
          go_roundw
          case rel => exact ⟨k + 1, by omega, by go_num, HN, d + nq, by simp⟩
          case measure => simp [intOf]; omega
        · have HN := hide (listT_ne (show k < xs.length by omega) (show k < ys.length by omega) heq)
          rw [decide_eq_false heq] at hE
          clear heq
          generalize xs[k] = x at c0 c1 c2 c3 hE
          generalize ys[k] = y at c0' c1' c2' c3' hE
          go_wp2_with fail
          go_quiet (fail)
          go_wp2_with fail
          go_ret
          exact ⟨ret_bool (by rw [decide_eq_false (unhide HN)]), below_drewN (below_drewN (Below.refl _ _) d) nq⟩
      · have HN : Hid (xs = ys) := by
          have h := unhide HK
          rw [List.take_of_length_le (by omega), List.take_of_length_le (by omega)] at h
          exact h
        go_wp2_with fail
        go_ret
        exact ⟨ret_bool (by rw [decide_eq_true (unhide HN)]), below_drewN (Below.refl _ _) d⟩
  · have HN : Hid (decide (xs = ys) = false) := by
      refine decide_eq_false (fun e => ?_)
      subst e
      omega
    have el : ((len : Int) != len') = true := by simp; omega
    go_enter Tryd.func10, Tryd.ntmps10
    go_wp2_with fail
    go_ret
    exact ⟨ret_bool (unhide HN), Below.refl _ _⟩

theorem size_f {n : Nat} (h : ¬ 200 < n) : decide (200 < (n : Int)) = false := decide_eq_false (by omega)
theorem size_t {n : Nat} (h : 200 < n) : decide (200 < (n : Int)) = true := decide_eq_true (by omega)
set_option maxHeartbeats 2000000 in
theorem heavyT_any (a : Option Addr) (len cap : Nat) (xs : List Tm) (w : World) (hrow : RowT w a xs) (hl : len ≤ xs.length) (hl' : xs.length ≤ len) :
    Calls Tryd.prog 7 #[.slice a len cap] w fun e w' => ((e = .returned (.bool true)) ∨ (e = .returned (.bool false) ∧ len ≤ 300 ∧ ∀ x ∈ xs, x.2.1.size ≤ 200)) ∧ Below w.heap.size w w' := by
  by_cases h110 : 300 < len
  · have d110 : decide (300 < (len : Int)) = true := by simp; omega
    go_enter Tryd.func7, Tryd.ntmps7
    go_wp2_with fail
    go_ret
    exact ⟨Or.inl rfl, Below.refl _ _⟩
  · have d110 : decide (300 < (len : Int)) = false := by simp; omega
    go_enter Tryd.func7, Tryd.ntmps7
    go_wp2_with fail
    go_loopw [3] (fun i wr => ∃ k : Nat, k ≤ len ∧ i = .int .i64 k ∧ Hid (∀ j (_ : j < xs.length), j < k → xs[j].2.1.size ≤ 200) ∧ Below w.heap.size w wr) (fun i _ => len - (intOf i).toNat)
    case atStart => exact ⟨0, Nat.zero_le _, rfl, hide (fun j _ h => by omega), Below.refl _ _⟩
    case round =>
      obtain ⟨k, hk, rfl, HK, hbw⟩ := hrel
      by_cases hlt : k < len
      · obtain ⟨b, o, ha, hbl, c0, c1, c2, c3⟩ := (hrow.on hbw).up (show k < xs.length by omega)
        subst ha
        by_cases h1 : 200 < xs[k].2.1.size
        · have d1 := size_t h1
          clear h1
          generalize xs[k] = x at c0 c1 c2 c3 d1
          go_wp2_with fail
          go_ret
          exact ⟨Or.inl rfl, hbw⟩
        · have d1 := size_f h1
          have HN : Hid (∀ j (_ : j < xs.length), j < k + 1 → xs[j].2.1.size ≤ 200) := by
            refine hide (fun j hj hjk => ?_)
            by_cases e : j < k
            · exact unhide HK j hj e
            · have : j = k := by omega
              subst this
              omega
          clear h1
          generalize xs[k] = x at c0 c1 c2 c3 d1
          go_wp2_with fail
          go_roundw
          case rel => exact ⟨k + 1, by omega, by go_num, HN, hbw⟩
          case measure => simp [intOf]; omega
      · have HN : Hid (∀ x ∈ xs, x.2.1.size ≤ 200) := by
          refine hide (fun x hx => ?_)
          obtain ⟨j, hj, rfl⟩ := List.getElem_of_mem hx
          exact unhide HK j hj (by omega)
        go_wp2_with fail
        go_ret
        exact ⟨Or.inr ⟨rfl, by omega, unhide HN⟩, hbw⟩
end Go.Proofs.YtaapeleoiclplaaDoor
