/- What the twin of a list of steps is; what constablekeep.Ops and the law's Heavy of steps answer. -/
import Derived.Test.YtakhcifhfbiopaaExpC
import Derived.Laws.AppendOwnNone
import Derived.Deep.DeepAppendWide
namespace Go.Proofs.Ytakhcifhfbiopaa.Sb
open Go.RowKit
open V
open Ex (RowO LiesO flatO flatO_len flatO_app flatO_oneCell liesO_own liesO_none)

theorem infoO : (Try.prog.info? 67).map (fun i => (i.zero, i.size, i.bytes)) = some (some (.agg #[.int .i64 0, .string ⟨#[]⟩, .int .i64 0, .int .i64 0, .string ⟨#[]⟩]), 5, 56) := by kernel_rfl
theorem flatO_cells {W : World} {b o : Nat} (xs : List Oo) (hc : ∀ (i : Nat) (x : Oo), xs[i]? = some x → W.cell? ⟨b, o + i * 5, none⟩ = some (.int .i64 x.1) ∧ W.cell? ⟨b, o + i * 5 + 1, none⟩ = some (.string x.2.1) ∧ W.cell? ⟨b, o + i * 5 + 2, none⟩ = some (.int .i64 x.2.2.1) ∧ W.cell? ⟨b, o + i * 5 + 3, none⟩ = some (.int .i64 x.2.2.2.1) ∧ W.cell? ⟨b, o + i * 5 + 4, none⟩ = some (.string x.2.2.2.2)) : ∀ (j : Nat) (u : Value), (flatO xs)[j]? = some u → W.cell? ⟨b, o + j, none⟩ = some u := by
  induction xs generalizing o with
  | nil => intro j u h; simp [flatO] at h
  | cons x r ih =>
    intro j u h
    obtain ⟨h0, h1, h2, h3, h4⟩ := hc 0 x rfl
    match j with
    | 0 => simp [flatO] at h; subst h; simpa using h0
    | 1 => simp [flatO] at h; subst h; simpa using h1
    | 2 => simp [flatO] at h; subst h; simpa using h2
    | 3 => simp [flatO] at h; subst h; simpa using h3
    | 4 => simp [flatO] at h; subst h; simpa using h4
    | j + 5 =>
      have := ih (o := o + 5) (fun i v hv => by
        have := hc (i + 1) v (by simpa using hv)
        rw [show o + (i + 1) * 5 = o + 5 + i * 5 by omega] at this
        exact this) j u (by simpa [flatO] using h)
      rw [show o + (j + 5) = o + 5 + j by omega]
      exact this
theorem rowO_cells {W : World} {ad : Addr} {xs : List Oo} (h : RowO W (some ad) xs) : ∀ (j : Nat) (u : Value), (flatO xs)[j]? = some u → W.cell? (ad.add j) = some u := by
  rcases h with h | ⟨b, o, h, hlt, hc⟩
  · subst h; intro j u hu; simp [flatO] at hu
  · simp only [Option.some.injEq] at h
    subst h
    intro j u hu
    rw [WideShapes.add_plain]
    exact flatO_cells xs hc j u hu

set_option maxHeartbeats 2000000 in
theorem twinO_any (a : Option Addr) (len cap : Nat) (xs : List Oo) (w : World) (hx : LiesO w a len cap xs) (h1k : len ≤ 1000) :
    Calls Try.prog 25 #[.slice a len cap] w fun e w' => ∃ (q : Option Addr) (c : Nat), e = .returned (.slice q len c) ∧ w'.ownsRow w.heap.size 67 5 (.slice q len c) len (flatO xs) ∧ Below w.heap.size w w' := by
  obtain ⟨i0, hi, hz0, hz1, hz2⟩ := info_parts infoO
  obtain ⟨hrow, hlen, hnil, hcap⟩ := hx
  cases a with
  | none =>
    have h0 := hnil rfl
    subst h0
    have hl0 : len = 0 := by omega
    subst hl0
    have hxe : xs = [] := List.eq_nil_of_length_eq_zero hlen.symm
    subst hxe
    clear hrow hlen hnil hcap
    go_enter Try.func25, Try.ntmps25
    go_wp2_with (at_builtin; refine wpList_append_own_none rfl _ _ 27 rfl w.heap.size 67 i0 5 Try.underlying27 hi _ 0 [] rfl (World.ownsRow_nil _ _ _ _) rfl ?_)
    go_ret
    exact ⟨none, 0, rfl, World.ownsRow_nil _ _ _ _, Below.refl _ _⟩
  | some ad =>
    have hcs := hide (rowO_cells hrow)
    have hfl := hide (flatO_len xs)
    have hl1 : len ≤ xs.length := by omega
    have hl2 : xs.length ≤ len := by omega
    clear hlen hrow hnil
    go_enter Try.func25, Try.ntmps25
    go_wp2_with (at_builtin; refine wpList_append_own_wide _ rfl _ _ 27 rfl w.heap.size 67 i0 (.agg #[.int .i64 0, .string ⟨#[]⟩, .int .i64 0, .int .i64 0, .string ⟨#[]⟩]) 5 56 Try.underlying27 hi hz0 hz1 hz2 rfl (by decide) _ 0 [] rfl (World.ownsRow_nil _ _ _ _) ad len cap (flatO xs) rfl ?c0 ?c1 ?c2 ?c3 ?c4 ?c5 ?_)
    case c0 => rw [unhide hfl]; omega
    case c1 => exact unhide hcs
    case c2 => exact flatO_oneCell xs
    case c3 => unfold maxLen; omega
    case c4 => omega
    case c5 => exact Nat.le_refl _
    intro v' w3 hown3 hgrow hnil3
    obtain ⟨aq3, cq3, rfl⟩ := own_slice hown3
    have hbw3 := (Below.refl w.heap.size w).grown hgrow (Nat.le_refl _) (fun m hm => by cases hm)
    clear hgrow hnil3 hcs
    go_wp2_with fail
    go_ret
    exact ⟨aq3, cq3, rfl, hown3, hbw3⟩

theorem eqO_in (x y : Oo) (w : World) : (Op.equalIn 10000 67 (.agg #[.int .i64 x.1, .string x.2.1, .int .i64 x.2.2.1, .int .i64 x.2.2.2.1, .string x.2.2.2.2]) (.agg #[.int .i64 y.1, .string y.2.1, .int .i64 y.2.2.1, .int .i64 y.2.2.2.1, .string y.2.2.2.2])).run Try.prog w = .ok (decide (x = y)) w := by
  have u3 := Try.underlying3
  have a3 := Try.isAgg3
  have z3 := Try.sizeOf3
  have u9 := Try.underlying9
  have a9 := Try.isAgg9
  have z9 := Try.sizeOf9
  have a24 := Try.isAgg23
  have z24 := Try.sizeOf23
  have hS : Try.prog.underlying 67 = some (.struct (Try.prog.fieldsOf 67)) := by kernel_rfl
  have hp : Try.prog.stoodInHeld 67 = false := by kernel_rfl
  have hV := eqV_in
  rw [show (10000 : Nat) = 9999 + 1 from rfl, run_equalIn_agg w 9999 67 _ _ hS hp]
  simp only [Program.fieldsOf, Try.underlying67]
  clear hS hp
  go_simp
  simp only [toList_inj]
  obtain ⟨k, n, a, b, c⟩ := x
  obtain ⟨k', n', a', b', c'⟩ := y
  by_cases hk : k = k' <;> by_cases h0 : n = n' <;> by_cases h1 : a = a' <;> by_cases h2 : b = b' <;> by_cases h3 : c = c' <;> simp [hk, h0, h1, h2, h3]

theorem listO_ne {xs ys : List Oo} {k : Nat} (hx : k < xs.length) (hy : k < ys.length) (h : xs[k] ≠ ys[k]) : xs ≠ ys := by
  intro e
  subst e
  exact h rfl
theorem takeO_same {xs ys : List Oo} {k : Nat} (hx : k < xs.length) (hy : k < ys.length) (h : xs[k] = ys[k]) (hp : xs.take k = ys.take k) : xs.take (k + 1) = ys.take (k + 1) := by
  rw [List.take_succ_eq_append_getElem hx, List.take_succ_eq_append_getElem hy, hp, h]

set_option maxHeartbeats 2000000 in
theorem keepOps_any (a a' : Option Addr) (len len' cap cap' : Nat) (xs ys : List Oo) (w : World) (hr : RowO w a xs) (hr' : RowO w a' ys) (hl : len ≤ xs.length) (hl' : xs.length ≤ len) (hm : len' ≤ ys.length) (hm' : ys.length ≤ len') (h1k : len ≤ 1000) :
    Calls Try.prog 33 #[.slice a len cap, .slice a' len' cap'] w fun e w' => e = .returned (.bool (decide (xs = ys))) ∧ Below w.heap.size w w' := by
  by_cases hll : len = len'
  · subst hll
    go_enter Try.func33, Try.ntmps33
    go_wp2_with fail
    go_loopw [5] (fun i wr => ∃ k : Nat, k ≤ len ∧ i = .int .i64 k ∧ Hid (xs.take k = ys.take k) ∧ (∃ d, wr = w.drewN d)) (fun i _ => len - (intOf i).toNat)
    case atStart => exact ⟨0, Nat.zero_le _, rfl, hide (by simp), 0, rfl⟩
    case round =>
      obtain ⟨k, hk, rfl, HK, d, rfl⟩ := hrel
      by_cases hlt : k < len
      · obtain ⟨b, o, ha, hbl, c0, c1, c2, c3, c4⟩ := hr.up (show k < xs.length by omega)
        obtain ⟨b', o', ha', hbl', c0', c1', c2', c3', c4'⟩ := hr'.up (show k < ys.length by omega)
        subst ha
        subst ha'
        have hE := eqO_in xs[k] ys[k]
        by_cases heq : xs[k] = ys[k]
        · have HN := hide (takeO_same (show k < xs.length by omega) (show k < ys.length by omega) heq (unhide HK))
          rw [decide_eq_true heq] at hE
          clear heq
          generalize xs[k] = x at c0 c1 c2 c3 c4 hE
          generalize ys[k] = y at c0' c1' c2' c3' c4' hE
          go_wp2_with fail
          go_quiet (fail)
          go_wp2_with fail
          go_roundw
          case rel => exact ⟨k + 1, by omega, by go_num, HN, d + nq, by simp⟩
          case measure => simp [intOf]; omega
        · have HN := hide (listO_ne (show k < xs.length by omega) (show k < ys.length by omega) heq)
          rw [decide_eq_false heq] at hE
          clear heq
          generalize xs[k] = x at c0 c1 c2 c3 c4 hE
          generalize ys[k] = y at c0' c1' c2' c3' c4' hE
          go_wp2_with fail
          go_quiet (fail)
          go_wp2_with fail
          go_ret
          exact ⟨ret_bool' (by rw [decide_eq_false (unhide HN)]), below_drewN (below_drewN (Below.refl _ _) d) nq⟩
      · have HN : Hid (xs = ys) := by
          have h := unhide HK
          rw [List.take_of_length_le (by omega), List.take_of_length_le (by omega)] at h
          exact h
        go_wp2_with fail
        go_ret
        exact ⟨ret_bool' (by rw [decide_eq_true (unhide HN)]), below_drewN (Below.refl _ _) d⟩
  · have HN : Hid (decide (xs = ys) = false) := by
      refine decide_eq_false (fun e => ?_)
      subst e
      omega
    have el : ((len : Int) != len') = true := by simp; omega
    go_enter Try.func33, Try.ntmps33
    go_wp2_with fail
    go_ret
    exact ⟨ret_bool' (unhide HN).symm, Below.refl _ _⟩

set_option maxHeartbeats 2000000 in
theorem oheavy_any (a : Option Addr) (len cap : Nat) (xs : List Oo) (w : World) (hrow : RowO w a xs) (hl : len ≤ xs.length) (hl' : xs.length ≤ len) :
    Calls Try.prog 20 #[.slice a len cap] w fun e w' => ((e = .returned (.bool true)) ∨ (e = .returned (.bool false) ∧ len ≤ 40 ∧ ∀ x ∈ xs, LtO x)) ∧ Below w.heap.size w w' := by
  by_cases h110 : 40 < len
  · have d110 : decide (40 < (len : Int)) = true := by simp; omega
    go_enter Try.func20, Try.ntmps20
    go_wp2_with fail
    go_ret
    exact ⟨Or.inl rfl, Below.refl _ _⟩
  · have d110 : decide (40 < (len : Int)) = false := by simp; omega
    go_enter Try.func20, Try.ntmps20
    go_wp2_with fail
    go_loopw [3] (fun i wr => ∃ k : Nat, k ≤ len ∧ i = .int .i64 k ∧ Hid (∀ j (_ : j < xs.length), j < k → LtO xs[j]) ∧ Below w.heap.size w wr) (fun i _ => len - (intOf i).toNat)
    case atStart => exact ⟨0, Nat.zero_le _, rfl, hide (fun j _ h => by omega), Below.refl _ _⟩
    case round =>
      obtain ⟨k, hk, rfl, HK, hbw⟩ := hrel
      by_cases hlt : k < len
      · obtain ⟨b, o, ha, hbl, c0, c1, c2, c3, c4⟩ := (hrow.on hbw).up (show k < xs.length by omega)
        subst ha
        by_cases h1 : 200 < xs[k].2.1.size
        · have d1 := size_t h1
          clear h1
          generalize xs[k] = x at c0 c1 c2 c3 c4 d1
          go_wp2_with fail
          go_ret
          exact ⟨Or.inl rfl, hbw⟩
        · have d1 := size_f h1
          by_cases h2 : 200 < xs[k].2.2.2.2.size
          · have d2 := size_t h2
            clear h1 h2
            generalize xs[k] = x at c0 c1 c2 c3 c4 d1 d2
            go_wp2_with fail
            go_ret
            exact ⟨Or.inl rfl, hbw⟩
          · have d2 := size_f h2
            have HN : Hid (∀ j (_ : j < xs.length), j < k + 1 → LtO xs[j]) := by
              refine hide (fun j hj hjk => ?_)
              by_cases e : j < k
              · exact unhide HK j hj e
              · have : j = k := by omega
                subst this
                exact ⟨by omega, by omega⟩
            clear h1 h2
            generalize xs[k] = x at c0 c1 c2 c3 c4 d1 d2
            go_wp2_with fail
            go_roundw
            case rel => exact ⟨k + 1, by omega, by go_num, HN, hbw⟩
            case measure => simp [intOf]; omega
      · have HN : Hid (∀ x ∈ xs, LtO x) := by
          refine hide (fun x hx => ?_)
          obtain ⟨j, hj, rfl⟩ := List.getElem_of_mem hx
          exact unhide HK j hj (by omega)
        go_wp2_with fail
        go_ret
        exact ⟨Or.inr ⟨rfl, by omega, unhide HN⟩, hbw⟩
end Go.Proofs.Ytakhcifhfbiopaa.Sb
