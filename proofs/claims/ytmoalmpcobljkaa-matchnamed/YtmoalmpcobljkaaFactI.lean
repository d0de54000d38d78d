/- What the law's Heavy and constablekeep.Fact answer. -/
import Derived.Test.YtmoalmpcobljkaaFactG
namespace Go.Proofs.Ytmoalmpcobljkaa
open Go.RowKit
open V

/-- Small enough to be played. -/
structure Fb.Light (f : Fb) : Prop where
  n : f.n.size ≤ 200
  len : f.len ≤ 20
  vs : ∀ v ∈ f.vs, v.s.size ≤ 200

set_option maxHeartbeats 1000000 in
theorem heavy_any (n : ByteArray) (a : Option Addr) (len cap : Nat) (vs : List Vb) (w : World) (hrow : RowV w a vs) (hl : len ≤ vs.length) (hl' : vs.length ≤ len) :
    Calls Try.prog 7 #[.agg #[.string n, .slice a len cap]] w fun e w' => ((e = .returned (.bool true)) ∨ (e = .returned (.bool false) ∧ n.size ≤ 200 ∧ len ≤ 20 ∧ ∀ v ∈ vs, v.s.size ≤ 200)) ∧ Below w.heap.size w w' := by
  by_cases hn : 200 < n.size
  · go_enter Try.func7, Try.ntmps7
    go_wp2_with fail
    go_ret
    exact ⟨Or.inl rfl, (Below.refl _ _).alloc (Nat.le_refl _) _⟩
  · by_cases h20 : 20 < len
    · go_enter Try.func7, Try.ntmps7
      go_wp2_with fail
      go_ret
      exact ⟨Or.inl rfl, (Below.refl _ _).alloc (Nat.le_refl _) _⟩
    · have hby : Below w.heap.size w (w.alloc (.cells #[.string n, .slice a len cap] 27)) := (Below.refl _ _).alloc (Nat.le_refl _) _
      have hrow' := hrow.on hby
      go_enter Try.func7, Try.ntmps7
      go_wp2_with fail
      go_loop [3] (fun i => ∃ k : Nat, k ≤ len ∧ i = .int .i64 k ∧ Hid (∀ v ∈ vs.take k, v.s.size ≤ 200)) (fun i => len - (intOf i).toNat)
      case atStart => exact ⟨0, Nat.zero_le _, rfl, hide (by simp)⟩
      case round =>
        obtain ⟨k, hk, rfl, HK⟩ := hrel
        by_cases hlt : k < len
        · obtain ⟨b, o, ha, hbl, c0, c1, c2⟩ := hrow'.up (show k < vs.length by omega)
          subst ha
          by_cases hs : 200 < vs[k].s.size
          · go_wp2_with fail
            go_ret
            exact ⟨Or.inl rfl, hby⟩
          · have HN : Hid (∀ v ∈ vs.take (k + 1), v.s.size ≤ 200) := by
              show ∀ v ∈ vs.take (k + 1), v.s.size ≤ 200
              intro v hv
              rw [List.take_succ_eq_append_getElem (show k < vs.length by omega)] at hv
              rcases List.mem_append.1 hv with h | h
              · exact unhide HK v h
              · rw [List.mem_singleton.1 h]; omega
            go_wp2_with fail
            go_round
            case rel => exact ⟨k + 1, by omega, by go_num, HN⟩
            case measure => simp [intOf]; omega
        · have HN : Hid (∀ v ∈ vs, v.s.size ≤ 200) := by
            have h := unhide HK
            rw [List.take_of_length_le (by omega)] at h
            exact h
          go_wp2_with fail
          go_ret
          exact ⟨Or.inr ⟨rfl, by omega, by omega, unhide HN⟩, hby⟩

theorem vb_cases (x y : Vb) : ((x.k == y.k) = false ∧ x.l ≠ y.l) ∨ ((x.k == y.k) = true ∧ (x.n == y.n) = false ∧ x.l ≠ y.l) ∨ ((x.k == y.k) = true ∧ (x.n == y.n) = true ∧ (x.s.toList == y.s.toList) = false ∧ x.l ≠ y.l) ∨ ((x.k == y.k) = true ∧ (x.n == y.n) = true ∧ (x.s.toList == y.s.toList) = true ∧ x.l = y.l) := by
  simp only [ByteArray.toList_eq, beq_iff_eq, beq_eq_false_iff_ne, Vb.l, ne_eq, Prod.mk.injEq]
  by_cases h1 : x.k = y.k <;> by_cases h2 : x.n = y.n <;> by_cases h3 : x.s.data.toList = y.s.data.toList <;> simp [h1, h2, h3]

theorem map_ne {xs ys : List Vb} {k : Nat} (hx : k < xs.length) (hy : k < ys.length) (h : xs[k].l ≠ ys[k].l) : xs.map Vb.l ≠ ys.map Vb.l := by
  intro e
  have := congrArg (·[k]?) e
  simp [hx, hy] at this
  exact h this
theorem map_take {xs ys : List Vb} {k : Nat} (hx : k < xs.length) (hy : k < ys.length) (h : xs[k].l = ys[k].l) (hp : (xs.take k).map Vb.l = (ys.take k).map Vb.l) : (xs.take (k + 1)).map Vb.l = (ys.take (k + 1)).map Vb.l := by
  rw [List.take_succ_eq_append_getElem hx, List.take_succ_eq_append_getElem hy, List.map_append, List.map_append, hp]
  simp [h]
theorem same_f {n n' : List UInt8} {xs ys : List Vl} (h : xs ≠ ys) : decide ((n, xs) = (n', ys)) = false := decide_eq_false (fun e => h (by injection e))
theorem below_drewN {B : Nat} {a w : World} (h : Below B a w) (n : Nat) : Below B a (w.drewN n) := ⟨h.os, h.tape, h.output, h.size, h.block⟩
theorem ret_bool' {a b : Bool} (h : a = b) : Ending.returned (.bool a) = .returned (.bool b) := by rw [h]

set_option maxHeartbeats 4000000 in
theorem keepFact_any (n n' : ByteArray) (a a' : Option Addr) (len len' cap cap' : Nat) (xs ys : List Vb) (w : World) (hr : RowV w a xs) (hr' : RowV w a' ys) (hl : len ≤ xs.length) (hl' : xs.length ≤ len) (hm : len' ≤ ys.length) (hm' : ys.length ≤ len') (h20 : len ≤ 1000) :
    Calls Try.prog 13 #[.agg #[.string n, .slice a len cap], .agg #[.string n', .slice a' len' cap']] w fun e w' => e = .returned (.bool (decide ((n.data.toList, xs.map Vb.l) = (n'.data.toList, ys.map Vb.l)))) ∧ Below w.heap.size w w' := by
  have hby : Below w.heap.size w ((w.alloc (.cells #[.string n, .slice a len cap] 27)).alloc (.cells #[.string n', .slice a' len' cap'] 27)) := ((Below.refl _ _).alloc (Nat.le_refl _) _).alloc (by simp) _
  by_cases hn : n.data.toList = n'.data.toList
  · have en : (n.toList == n'.toList) = true := by simp only [ByteArray.toList_eq, beq_iff_eq]; exact hn
    by_cases hll : len = len'
    · subst hll
      have hrow := hr.on hby
      have hrow' := hr'.on hby
      have HD : Hid (decide ((n.data.toList, xs.map Vb.l) = (n'.data.toList, ys.map Vb.l)) = decide (xs.map Vb.l = ys.map Vb.l)) := by
        show _ = _
        rw [hn]; simp
      clear hn
      go_enter Try.func13, Try.ntmps13
      go_wp2_with fail
      go_loopw [5] (fun i wr => ∃ k : Nat, k ≤ len ∧ i = .int .i64 k ∧ Hid ((xs.take k).map Vb.l = (ys.take k).map Vb.l) ∧ (∃ d, wr = ((w.alloc (.cells #[.string n, .slice a len cap] 27)).alloc (.cells #[.string n', .slice a' len cap'] 27)).drewN d)) (fun i _ => len - (intOf i).toNat)
      case atStart => exact ⟨0, Nat.zero_le _, rfl, hide (by simp), 0, rfl⟩
      case round =>
        obtain ⟨k, hk, rfl, HK, d, rfl⟩ := hrel
        by_cases hlt : k < len
        · obtain ⟨b, o, ha, hbl, c0, c1, c2⟩ := hrow.up (show k < xs.length by omega)
          obtain ⟨b', o', ha', hbl', c0', c1', c2'⟩ := hrow'.up (show k < ys.length by omega)
          subst ha
          subst ha'
          rcases vb_cases xs[k] ys[k] with ⟨d0, hne⟩ | ⟨d0, d1, hne⟩ | ⟨d0, d1, d2, hne⟩ | ⟨d0, d1, d2, heq⟩
          · have HN := hide (map_ne (show k < xs.length by omega) (show k < ys.length by omega) hne)
            clear hne
            go_wp2_with fail
            go_quiet (fail)
            go_wp2_with fail
            go_ret
            exact ⟨ret_bool' (by rw [unhide HD, decide_eq_false (unhide HN)]), below_drewN (below_drewN hby d) nq⟩
          · have HN := hide (map_ne (show k < xs.length by omega) (show k < ys.length by omega) hne)
            clear hne
            go_wp2_with fail
            go_quiet (fail)
            go_wp2_with fail
            go_ret
            exact ⟨ret_bool' (by rw [unhide HD, decide_eq_false (unhide HN)]), below_drewN (below_drewN hby d) nq⟩
          · have HN := hide (map_ne (show k < xs.length by omega) (show k < ys.length by omega) hne)
            clear hne
            go_wp2_with fail
            go_quiet (fail)
            go_wp2_with fail
            go_ret
            exact ⟨ret_bool' (by rw [unhide HD, decide_eq_false (unhide HN)]), below_drewN (below_drewN hby d) nq⟩
          · have HN := hide (map_take (show k < xs.length by omega) (show k < ys.length by omega) heq (unhide HK))
            clear heq
            go_wp2_with fail
            go_quiet (fail)
            go_wp2_with fail
            go_roundw
            case rel => exact ⟨k + 1, by omega, by go_num, HN, d + nq, by simp⟩
            case measure => simp [intOf]; omega
        · have HN : Hid (xs.map Vb.l = ys.map Vb.l) := by
            have h := unhide HK
            rw [List.take_of_length_le (by omega), List.take_of_length_le (by omega)] at h
            exact h
          go_wp2_with fail
          go_ret
          exact ⟨ret_bool' (by rw [unhide HD, decide_eq_true (unhide HN)]), below_drewN hby d⟩
    · have HN : Hid (decide ((n.data.toList, xs.map Vb.l) = (n'.data.toList, ys.map Vb.l)) = false) := by
        refine same_f fun e => ?_
        have := congrArg List.length e
        simp at this
        omega
      have el : ((len : Int) != len') = true := by simp; omega
      clear hn
      go_enter Try.func13, Try.ntmps13
      go_wp2_with fail
      go_ret
      exact ⟨ret_bool' (unhide HN).symm, hby⟩
  · have en : (n.toList == n'.toList) = false := by simp only [ByteArray.toList_eq, beq_eq_false_iff_ne]; exact hn
    have HN : Hid (decide ((n.data.toList, xs.map Vb.l) = (n'.data.toList, ys.map Vb.l)) = false) := decide_eq_false (fun e => hn (by injection e))
    clear hn
    go_enter Try.func13, Try.ntmps13
    go_wp2_with fail
    go_ret
    exact ⟨ret_bool' (unhide HN).symm, hby⟩

/-- Of two facts that lie in memory. -/
theorem keepFact_fb (f g : Fb) (w : World) (hf : f.In w) (hg : g.In w) (h20 : f.len ≤ 1000) :
    Calls Try.prog 13 #[.agg #[.string f.n, .slice f.a f.len f.cap], .agg #[.string g.n, .slice g.a g.len g.cap]] w fun e w' => e = .returned (.bool (decide (f.l = g.l))) ∧ Below w.heap.size w w' :=
  keepFact_any _ _ _ _ _ _ _ _ _ _ w hf.row hg.row (by rw [hf.len]; omega) (by rw [hf.len]; omega) (by rw [hg.len]; omega) (by rw [hg.len]; omega) h20
theorem heavy_fb (f : Fb) (w : World) (hf : f.In w) :
    Calls Try.prog 7 #[.agg #[.string f.n, .slice f.a f.len f.cap]] w fun e w' => ((e = .returned (.bool true)) ∨ (e = .returned (.bool false) ∧ f.Light)) ∧ Below w.heap.size w w' := by
  refine (heavy_any _ _ _ _ _ w hf.row (by rw [hf.len]; omega) (by rw [hf.len]; omega)).mono ?_
  rintro e w' ⟨h, hb⟩
  refine ⟨?_, hb⟩
  rcases h with h | ⟨h, h1, h2, h3⟩
  · exact Or.inl h
  · exact Or.inr ⟨h, h1, h2, h3⟩
theorem fcheck_fb (f : Fb) (w : World) (hf : f.In w) (hl : f.Light) :
    Calls Try.prog 20 #[.agg #[.string f.n, .slice f.a f.len f.cap]] w fun e w' => e = .returned (.int .i64 (chk (rightF f.l))) ∧ Below w.heap.size w w' :=
  fcheck_any _ _ _ _ _ w hl.n hl.vs hf.row (by rw [hf.len]; omega) (by rw [hf.len]; omega) hl.len
end Go.Proofs.Ytmoalmpcobljkaa
