/- What constablekeep.Texts, the document's With and ExprVars answer. -/
import Derived.Test.YtnomndpoklolfaaExpM
namespace Go.Proofs.Ytnomndpoklolfaa.Sb
open Go.RowKit
open V
open Ex (RowO LiesO flatO)

theorem listS_ne {xs ys : List ByteArray} {k : Nat} (hx : k < xs.length) (hy : k < ys.length) (h : xs[k] ≠ ys[k]) : xs ≠ ys := by
  intro e
  subst e
  exact h rfl
theorem takeS_same {xs ys : List ByteArray} {k : Nat} (hx : k < xs.length) (hy : k < ys.length) (h : xs[k] = ys[k]) (hp : xs.take k = ys.take k) : xs.take (k + 1) = ys.take (k + 1) := by
  rw [List.take_succ_eq_append_getElem hx, List.take_succ_eq_append_getElem hy, hp, h]

set_option maxHeartbeats 2000000 in
theorem keepTexts_same (a a' : Option Addr) (len cap cap' : Nat) (xs : List ByteArray) (w : World) (hr : RowS w a xs) (hr' : RowS w a' xs) (hl : len ≤ xs.length) (hl' : xs.length ≤ len) (h1k : len ≤ 1000) :
    Calls Try.prog 14 #[.slice a len cap, .slice a' len cap'] w fun e w' => e = .returned (.bool true) ∧ Below w.heap.size w w' := by
  go_enter Try.func14, Try.ntmps14
  go_wp2_with fail
  go_loopw [5] (fun i wr => ∃ k : Nat, k ≤ len ∧ i = .int .i64 k ∧ (∃ d, wr = w.drewN d)) (fun i _ => len - (intOf i).toNat)
  case atStart => exact ⟨0, Nat.zero_le _, rfl, 0, rfl⟩
  case round =>
    obtain ⟨k, hk, rfl, d, rfl⟩ := hrel
    by_cases hlt : k < len
    · obtain ⟨b, o, ha, hbl, c0⟩ := hr.up (show k < xs.length by omega)
      obtain ⟨b', o', ha', hbl', c0'⟩ := hr'.up (show k < xs.length by omega)
      subst ha
      subst ha'
      generalize xs[k] = x at c0 c0'
      go_wp2_with fail
      go_quiet (fail)
      go_wp2_with fail
      go_roundw
      case rel => exact ⟨k + 1, by omega, by go_num, d + nq, by simp⟩
      case measure => simp [intOf]; omega
    · go_wp2_with fail
      go_ret
      exact ⟨rfl, below_drewN (Below.refl _ _) d⟩

set_option maxHeartbeats 2000000 in
theorem refWith_any (B : Nat) (s : Option Addr) (n c : Nat) (ns : List ByteArray) (x : ByteArray) (w : World) (hB : B ≤ w.heap.size) (hn : n ≤ 1000) (hs : w.ownsRow B 9 1 (.slice s n c) n (ns.map Value.string)) :
    Calls Try.prog 32 #[.slice s n c, .string x] w fun e w' => ∃ (q : Option Addr) (m d : Nat), e = .returned (.slice q m d) ∧ m = (withL ns x).length ∧ w'.ownsRow B 9 1 (.slice q m d) m ((withL ns x).map Value.string) ∧ Below B w w' := by
  obtain ⟨i0, hi, hz0, hz1, hz2⟩ := info_parts infoS
  have hlen : n = ns.length := by have := hs.1; simp at this; omega
  have hrow := rowS_own hs hlen
  have hl : n ≤ ns.length := by omega
  have hl' : ns.length ≤ n := by omega
  by_cases hz : x.size = 0
  · have e0 : ((x.size : Int) == 0) = true := by simp [hz]
    have HN := hide (with_none (l := ns) hz)
    have HE := hide hlen
    clear hlen hz hrow
    go_enter Try.func32, Try.ntmps32
    go_wp2_with fail
    go_ret
    exact ⟨s, n, c, rfl, by rw [unhide HN]; exact unhide HE, by rw [unhide HN]; exact hs, Below.refl _ _⟩
  · have e0 : ((x.size : Int) == 0) = false := by rw [beq_eq_false_iff_ne]; omega
    have HE := hide hlen
    have HZ := hide hz
    clear hlen hz
    go_enter Try.func32, Try.ntmps32
    go_wp2_with fail
    go_loopw [5] (fun i wr => ∃ k : Nat, k ≤ n ∧ i = .int .i64 k ∧ Hid (∀ j (_ : j < ns.length), j < k → ns[j] ≠ x) ∧ w = wr) (fun i _ => n - (intOf i).toNat)
    case atStart => exact ⟨0, Nat.zero_le _, rfl, hide (fun j _ h => by omega), rfl⟩
    case round =>
      obtain ⟨k, hk, rfl, HK, hw⟩ := hrel
      subst hw
      by_cases hlt : k < n
      · obtain ⟨b, o, ha, hbl, c0⟩ := hrow.up (show k < ns.length by omega)
        subst ha
        by_cases he : ns[k] = x
        · have HN : Hid (withL ns x = ns) := hide (with_old (by rw [List.any_eq_true]; exact ⟨ns[k], List.getElem_mem _, decide_eq_true he⟩))
          have d0 := str_t he
          clear he
          generalize ns[k] = y at c0 d0
          go_wp2_with fail
          go_ret
          exact ⟨_, n, c, rfl, by rw [unhide HN]; exact unhide HE, by rw [unhide HN]; exact hs, Below.refl _ _⟩
        · have HN : Hid (∀ j (_ : j < ns.length), j < k + 1 → ns[j] ≠ x) := by
            refine hide (fun j hj hjk => ?_)
            by_cases e : j < k
            · exact unhide HK j hj e
            · have : j = k := by omega
              subst this; exact he
          have d0 := str_f he
          clear he
          generalize ns[k] = y at c0 d0
          go_wp2_with fail
          go_roundw
          case rel => exact ⟨k + 1, by omega, by go_num, HN, trivial⟩
          case measure => simp [intOf]; omega
      · have HN : Hid (withL ns x = ns ++ [x]) := by
          refine hide (with_new ?_ (unhide HZ))
          rw [Bool.eq_false_iff]
          intro h
          rw [List.any_eq_true] at h
          obtain ⟨y, hy, hyx⟩ := h
          obtain ⟨j, hj, rfl⟩ := List.getElem_of_mem hy
          exact unhide HK j hj (by omega) (of_decide_eq_true hyx)
        have M1 := hide (show n + 1 ≤ maxLen by unfold maxLen; omega)
        clear hrow
        go_wp2_with (at_builtin; refine wpList_append_own _ rfl _ _ 34 rfl B 9 i0 (.string ⟨#[]⟩) 1 16 Try.underlying34 hi hz0 hz1 hz2 rfl (by decide) _ _ _ rfl (hs.alloc _) ⟨w.heap.size, 0, none⟩ 1 1 [.string x] rfl rfl (cell_one_new _ _ _) (by simp [Value.oneCell']) (unhide M1) (by omega) (by simp; omega) ?_; intro v' w3 hown' hgrow3 hnil3)
        obtain ⟨aq, cq, rfl⟩ := own_slice hown'
        have hb : Below B w w3 := ((Below.refl B w).alloc hB (.cells #[.string x] 9)).grown hgrow3 (by simp; omega) (fun j hj => (hs.lt j hj).1)
        have hown4 : w3.ownsRow B 9 1 (.slice aq (n + 1) cq) (n + 1) ((ns ++ [x]).map Value.string) := by simpa using hown'
        clear hgrow3 hnil3 hown'
        go_wp2_with fail
        go_ret
        exact ⟨aq, n + 1, cq, rfl, by rw [unhide HN]; simp; exact unhide HE, by rw [unhide HN]; exact hown4, hb⟩

set_option maxHeartbeats 2000000 in
theorem refVars_any (a : Option Addr) (len cap : Nat) (ts : List Oo) (w : World) (hrow : RowO w a ts) (hl : len ≤ ts.length) (hl' : ts.length ≤ len) (h1k : len ≤ 1000) :
    Calls Try.prog 16 #[.slice a len cap] w fun e w' => ∃ (q : Option Addr) (m c : Nat), e = .returned (.slice q m c) ∧ m = (varsO ts).length ∧ RowS w' q (varsO ts) ∧ Below w.heap.size w w' := by
  go_enter Try.func16, Try.ntmps16
  go_wp2_with fail
  go_loopw [3, 4] (fun v i wr => ∃ (k n c : Nat) (s : Option Addr), k ≤ len ∧ i = .int .i64 k ∧ v = .slice s n c ∧ n = (varsK ts k).length ∧ wr.ownsRow w.heap.size 9 1 (.slice s n c) n ((varsK ts k).map Value.string) ∧ Below w.heap.size w wr) (fun _ i _ => len - (intOf i).toNat)
  case atStart => exact ⟨0, 0, 0, none, Nat.zero_le _, rfl, rfl, rfl, World.ownsRow_nil _ _ _ _, Below.refl _ _⟩
  case round =>
    obtain ⟨k, n, c, s, hk, rfl, rfl, hn, hown, hbw⟩ := hrel
    have hvl := varsK_len ts k
    by_cases hlt : k < len
    · obtain ⟨b, o, ha, hbl, c0, c1, c2, c3, c4⟩ := (hrow.on hbw).up (show k < ts.length by omega)
      subst ha
      have HN := hide (varsK_next (ts := ts) (k := k) (by omega))
      have F := refWith_any w.heap.size s n c (varsK ts k) ts[k].2.1 wr hbw.size (by omega) hown
      clear hn hvl c0 c2 c3 c4
      generalize ts[k].2.1 = x at c1 HN F
      go_wp2_with fail
      refine F.mono ?_
      rintro e w2 ⟨q, m, d, rfl, hm, ho, hb2⟩
      have hw2 := hbw.trans hb2
      rw [← unhide HN] at hm ho
      have HM := hide hm
      clear F hb2 hown c1 hm
      go_wp2_with fail
      go_roundw
      case rel => exact ⟨k + 1, m, d, q, by omega, by go_num, rfl, unhide HM, ho, hw2⟩
      case measure => simp [intOf]; omega
    · have HE := hide (varsK_end (ts := ts) (k := k) (by omega))
      have HM := hide hn
      clear hn hvl
      go_wp2_with fail
      go_ret
      have hm := unhide HM
      rw [unhide HE] at hm hown
      exact ⟨s, n, c, rfl, hm, rowS_own hown hm, hbw⟩
end Go.Proofs.Ytnomndpoklolfaa.Sb
