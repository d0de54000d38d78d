/- What the document's Term and Atom, and constablekeep.TwinAtom answer. -/
import Derived.Test.YtmoalmpcobljkaaMatG
namespace Go.Proofs.Ytmoalmpcobljkaa.Sb
open Go.RowKit
open V

theorem cell_on' {W w1 : World} {p : Addr} {v : Value} (hb : Below W.heap.size W w1) (h : W.cell? p = some v) : w1.cell? p = some v := by
  have hl : p.block < W.heap.size := by
    rcases Nat.lt_or_ge p.block W.heap.size with h' | h'
    · exact h'
    · simp [World.cell?, Array.getElem?_eq_none h'] at h
  rw [hb.cell hl]; exact h

set_option maxHeartbeats 1000000 in
theorem refTerm_q (t : Bb) (q : Bool) (w : World) (ht : Lt t) (H : Hid (rightT t = q)) :
    Calls Try.prog 30 #[.agg #[.string t.1, .int .i64 t.2.1, .int .i64 t.2.2.1, .string t.2.2.2]] w fun e w' => e = .returned (.bool q) ∧ Below w.heap.size w w' := by
  have hba : Below w.heap.size w (w.alloc (bxT t)) := (Below.refl _ _).alloc (Nat.le_refl _) _
  obtain ⟨c0, c1, c2, c3⟩ := quadT (heap_alloc_new w (bxT t))
  by_cases hz : t.1.size = 0
  · have e0 : decide (0 < t.1.size) = false := decide_eq_false (by omega)
    have HQ : Hid (rightVv t.2 = q) := hide (by rw [← unhide H, rightT, if_pos hz])
    have hv := fun W => refValue_any t.2.1 t.2.2.1 t.2.2.2 W (by have := ht.2; omega)
    rw [show rightB t.2.1 t.2.2.1 t.2.2.2.data.toList = q from unhide HQ] at hv
    clear hz H
    go_enter Try.func30, Try.ntmps30
    go_wp2_with fail
    refine (hv _).mono ?_
    rintro e w1 ⟨rfl, hb1⟩
    clear c0 c1 c2 c3 e0 hv
    go_wp2_with fail
    go_ret
    exact ⟨rfl, bt hba hb1⟩
  · have e0 : decide (0 < t.1.size) = true := decide_eq_true (by omega)
    have HQ : Hid ((varB t.1.data.toList && decide (t.2 = zeroV)) = q) := hide (by rw [← unhide H, rightT, if_neg hz])
    have hw := fun W => refWordU_any t.1 W (by unfold maxLen; have := ht.1; omega)
    clear hz H
    cases hv : varB t.1.data.toList with
    | false =>
      have HQ' : Hid (false = q) := hide (by rw [← unhide HQ, hv]; rfl)
      rw [hv] at hw
      go_enter Try.func30, Try.ntmps30
      go_wp2_with fail
      refine (hw _).mono ?_
      rintro e w1 ⟨rfl, rfl⟩
      clear c0 c1 c2 c3 hv e0 hw
      go_wp2_with fail
      go_ret
      exact ⟨ret_bool' (unhide HQ'), hba⟩
    | true =>
      have HQ' : Hid (decide (t.2 = zeroV) = q) := hide (by rw [← unhide HQ, hv]; rfl)
      have hE := eqV0 t.2 zeroV
      rw [unhide HQ'] at hE
      simp only [zeroV] at hE
      rw [hv] at hw
      go_enter Try.func30, Try.ntmps30
      go_wp2_with fail
      refine (hw _).mono ?_
      rintro e w1 ⟨rfl, rfl⟩
      clear hv e0 hw
      go_wp2_with fail
      go_ret
      exact ⟨rfl, hba⟩

set_option maxHeartbeats 1000000 in
theorem refAtom_any (n : ByteArray) (a : Option Addr) (len cap : Nat) (ts : List Bb) (w : World) (hn : n.size ≤ 200) (hv : ∀ t ∈ ts, Lt t) (hrow : RowB w a ts) (hl : len ≤ ts.length) (hl' : ts.length ≤ len) (h20 : len ≤ 20) :
    Calls Try.prog 16 #[.agg #[.string n, .slice a len cap]] w fun e w' => e = .returned (.bool (rightA n ts)) ∧ Below w.heap.size w w' := by
  have hlen : ts.length = len := by omega
  cases hnm : nameB n.data.toList with
  | false =>
    have HR : Hid (rightA n ts = false) := by
      show _ = _
      simp [rightA, hnm]
    clear hlen
    go_enter Try.func16, Try.ntmps16
    go_wp2_with (go_at_call 28; refine (refName_any _ _ (by unfold maxLen; omega)).mono ?_; rintro e w1 ⟨rfl, hb1⟩; rw [hnm])
    go_ret
    exact ⟨ret_bool' (unhide HR).symm, below_box hb1⟩
  | true =>
    by_cases h5 : 5 < len
    · have HR : Hid (rightA n ts = false) := by
        show _ = _
        simp [rightA, hlen]; intros; omega
      have d5 : decide (5 < (len : Int)) = true := by simp; omega
      clear hlen
      go_enter Try.func16, Try.ntmps16
      go_wp2_with (go_at_call 28; refine (refName_any _ _ (by unfold maxLen; omega)).mono ?_; rintro e w1 ⟨rfl, hb1⟩; rw [hnm]; obtain ⟨hcl, hfr⟩ := bcell hb1)
      go_ret
      exact ⟨ret_bool' (unhide HR).symm, below_box hb1⟩
    · have d5 : decide (5 < (len : Int)) = false := by simp; omega
      have HR : Hid (rightA n ts = ts.all rightT) := by
        show _ = _
        simp [rightA, hnm, hlen]; omega
      clear hlen
      have k1 : (w.alloc (.cells #[.string n, .slice a len cap] 24)).cell? ⟨w.heap.size, 1, none⟩ = some (.slice a len cap) := by rw [Lib.cell_of_heap (heap_alloc_new w _)]; rfl
      have hsz : w.heap.size < (w.alloc (.cells #[.string n, .slice a len cap] 24)).heap.size := by simp
      go_enter Try.func16, Try.ntmps16
      go_wp2_with (go_at_call 28; refine (refName_any _ _ (by unfold maxLen; omega)).mono ?_; rintro e w1 ⟨rfl, hb1⟩; rw [hnm]; obtain ⟨hcl, hfr⟩ := bcell hb1)
      have hw1 := below_box hb1
      have m1 : w1.cell? ⟨w.heap.size, 1, none⟩ = some (.slice a len cap) := (hb1.cell (p := ⟨_, _, none⟩) hsz).trans k1
      have hs1 : w.heap.size < w1.heap.size := by have := hb1.size; omega
      clear hb1 hcl hfr hnm k1 hsz
      go_loopw [3] (fun i wr => ∃ k : Nat, k ≤ len ∧ i = .int .i64 k ∧ Hid ((ts.take k).all rightT = true) ∧ Below w1.heap.size w1 wr) (fun i _ => len - (intOf i).toNat)
      case atStart => exact ⟨0, Nat.zero_le _, rfl, hide rfl, Below.refl _ _⟩
      case round =>
        obtain ⟨k, hk, rfl, HK, hbw⟩ := hrel
        have r1 : wr.cell? ⟨w.heap.size, 1, none⟩ = some (.slice a len cap) := (hbw.cell (p := ⟨_, _, none⟩) hs1).trans m1
        have hww : Below w.heap.size w wr := bt hw1 hbw
        by_cases hlt : k < len
        · obtain ⟨b, o, ha, hbl, c0, c1, c2, c3⟩ := (hrow.on hww).up (show k < ts.length by omega)
          subst ha
          have hsz := hv ts[k] (List.getElem_mem (by omega))
          cases hr : rightT ts[k] with
          | false =>
            have HF := hide (allT_get (show k < ts.length by omega) hr)
            have HX := hide hr
            clear hr
            generalize ts[k] = t at c0 c1 c2 c3 hsz HX
            go_wp2_with fail
            refine (refTerm_q t false _ hsz HX).mono ?_
            rintro e w2 ⟨rfl, hb2⟩
            go_wp2_with fail
            go_ret
            exact ⟨ret_bool' (by rw [unhide HR, unhide HF]), bt hww hb2⟩
          | true =>
            have HN := hide (allT_take (show k < ts.length by omega) hr (unhide HK))
            have HX := hide hr
            clear hr
            generalize ts[k] = t at c0 c1 c2 c3 hsz HX
            go_wp2_with fail
            refine (refTerm_q t true _ hsz HX).mono ?_
            rintro e w2 ⟨rfl, hb2⟩
            go_wp2_with fail
            go_roundw
            case rel => exact ⟨k + 1, by omega, by go_num, HN, bt hbw hb2⟩
            case measure => simp [intOf]; omega
        · have HF : Hid (ts.all rightT = true) := by
            have h := unhide HK
            rw [List.take_of_length_le (by omega)] at h
            exact h
          go_wp2_with fail
          go_ret
          exact ⟨ret_bool' (by rw [unhide HR, unhide HF]), hww⟩
theorem refAtom_x (n : ByteArray) (a : Option Addr) (len cap : Nat) (ts : List Bb) (q : Bool) (w : World) (hn : n.size ≤ 200) (hv : ∀ t ∈ ts, Lt t) (hA : Lies w a len cap ts) (h20 : len ≤ 20) (H : Hid (rightA n ts = q)) :
    Calls Try.prog 16 #[.agg #[.string n, .slice a len cap]] w fun e w' => e = .returned (.bool q) ∧ Below w.heap.size w w' := by
  have := refAtom_any n a len cap ts w hn hv hA.row hA.le hA.ge h20
  rw [unhide H] at this
  exact this

theorem infoT : (Try.prog.info? 47).map (fun i => (i.zero, i.size, i.bytes)) = some (some (.agg #[.string ⟨#[]⟩, .int .i64 0, .int .i64 0, .string ⟨#[]⟩]), 4, 48) := by kernel_rfl
set_option maxHeartbeats 2000000 in
theorem twinA_some (n : ByteArray) (ad : Addr) (len cap : Nat) (ts : List Bb) (w : World) (hc : Hid (∀ (j : Nat) (u : Value), (flatB ts)[j]? = some u → w.cell? (ad.add j) = some u)) (hl : len ≤ ts.length) (hl' : ts.length ≤ len) (h20 : len ≤ 20) :
    Calls Try.prog 17 #[.agg #[.string n, .slice (some ad) len cap]] w fun e w' => ∃ (q : Option Addr) (c : Nat), e = .returned (.agg #[.string n, .slice q len c]) ∧ w'.ownsRow (w.heap.size + 3) 47 4 (.slice q len c) len (flatB ts) ∧ Below w.heap.size w w' := by
  obtain ⟨i0, hi, hz0, hz1, hz2⟩ := info_parts infoT
  obtain ⟨tb, -, t1, t2⟩ := three_of w (bxA n (some ad) len cap) (.cells #[.string ⟨#[]⟩, .slice none 0 0] 24) (.cells #[.string n, .slice none 0 0] 24)
  go_enter Try.func17, Try.ntmps17
  go_wp2_with (at_builtin; refine wpList_append_own_wide _ rfl _ _ 22 rfl (w.heap.size + 3) 47 i0 (.agg #[.string ⟨#[]⟩, .int .i64 0, .int .i64 0, .string ⟨#[]⟩]) 4 48 Try.underlying22 hi hz0 hz1 hz2 rfl (by decide) _ 0 [] rfl ⟨rfl, Or.inl ⟨rfl, rfl⟩⟩ ad len cap (flatB ts) rfl ?c0 ?c1 ?c2 ?c3 ?c4 ?c5 ?_)
  case c0 => rw [flatB_len]; omega
  case c1 =>
    intro j u hu
    exact cell_on' tb (unhide hc j u hu)
  case c2 => exact flatB_oneCell ts
  case c3 => unfold maxLen; omega
  case c4 => omega
  case c5 => simp
  intro v' w2 hown' hgrow hnil
  have u1 : w2.heap[w.heap.size + 1]? = some (.cells #[.string ⟨#[]⟩, .slice none 0 0] 24) := (hgrow.block _ (by simp) (by simp [Value.ownBlock])).trans t1
  have u2 : w2.heap[w.heap.size + 1 + 1]? = some (.cells #[.string n, .slice none 0 0] 24) := (hgrow.block _ (by simp) (by simp [Value.ownBlock])).trans t2
  have b2 : Below w.heap.size w w2 := tb.grown hgrow (by simp; omega) (by simp [Value.ownBlock])
  clear t1 t2 hnil tb hgrow
  obtain ⟨x0, x1⟩ := pair_of u1
  obtain ⟨y0, y1⟩ := pair_of u2
  have z0 : w2.frozen? ⟨w.heap.size + 1, 0, none⟩ = false := Lib.frozen_of_heap u1 0
  have z1 : w2.frozen? ⟨w.heap.size + 1, 1, none⟩ = false := Lib.frozen_of_heap u1 1
  have z2 : w2.frozen? ⟨w.heap.size + 1 + 1, 1, none⟩ = false := Lib.frozen_of_heap u2 1
  obtain ⟨ao, cp, rfl⟩ := own_slice hown'
  go_wp2_with fail
  have o1 := ownsRow_setCell_below hown' (a := ⟨w.heap.size + 1 + 1, 1, none⟩) (by show w.heap.size + 1 + 1 < w.heap.size + 3; omega) (.slice ao len cp)
  have o2 := ownsRow_setCell_below o1 (a := ⟨w.heap.size + 1, 0, none⟩) (by show w.heap.size + 1 < w.heap.size + 3; omega) (.string n)
  have o3 := ownsRow_setCell_below o2 (a := ⟨w.heap.size + 1, 1, none⟩) (by show w.heap.size + 1 < w.heap.size + 3; omega) (.slice ao len cp)
  refine bodyPost_ret (v := .agg #[.string n, .slice ao len cp]) (by simp [results, Try.results17, go_sem, x0, x1]) rfl ?_
  refine ⟨ao, cp, rfl, o3, ?_⟩
  exact ((b2.setCell (p := ⟨w.heap.size + 1 + 1, 1, none⟩) (by show w.heap.size ≤ w.heap.size + 1 + 1; omega) _).setCell (p := ⟨w.heap.size + 1, 0, none⟩) (by show w.heap.size ≤ w.heap.size + 1; omega) _).setCell (p := ⟨w.heap.size + 1, 1, none⟩) (by show w.heap.size ≤ w.heap.size + 1; omega) _
set_option maxHeartbeats 1000000 in
theorem twinA_none (n : ByteArray) (w : World) :
    Calls Try.prog 17 #[.agg #[.string n, .slice none 0 0]] w fun e w' => ∃ (q : Option Addr) (c : Nat), e = .returned (.agg #[.string n, .slice q 0 c]) ∧ w'.ownsRow (w.heap.size + 3) 47 4 (.slice q 0 c) 0 (flatB []) ∧ Below w.heap.size w w' := by
  obtain ⟨i0, hi, hz0, hz1, hz2⟩ := info_parts infoT
  go_enter Try.func17, Try.ntmps17
  go_wp2_with (at_builtin; refine wpList_append_own_none rfl _ _ 22 rfl (w.heap.size + 3) 47 i0 4 Try.underlying22 hi _ 0 [] rfl ⟨rfl, Or.inl ⟨rfl, rfl⟩⟩ rfl ?_)
  refine bodyPost_ret (v := .agg #[.string n, .slice none 0 0]) (by simp [results, Try.results17, go_sem]) rfl ?_
  exact ⟨none, 0, rfl, World.ownsRow_nil _ _ _ _, (((Below.refl _ _).alloc (Nat.le_refl _) _).alloc (by simp) _).alloc (by simp; omega) _⟩
/-- An atom's twin: the same name, the same terms, in new memory. -/
theorem twinA_any (n : ByteArray) (a : Option Addr) (len cap : Nat) (ts : List Bb) (w : World) (hA : Lies w a len cap ts) (h20 : len ≤ 20) :
    Calls Try.prog 17 #[.agg #[.string n, .slice a len cap]] w fun e w' => ∃ (q : Option Addr) (c : Nat), e = .returned (.agg #[.string n, .slice q len c]) ∧ w'.ownsRow w.heap.size 47 4 (.slice q len c) len (flatB ts) ∧ Below w.heap.size w w' := by
  obtain ⟨hrow, hlen, hnil, hcap⟩ := hA
  cases a with
  | none =>
    have h0 := hnil rfl
    subst h0
    have hl0 : len = 0 := by omega
    subst hl0
    have hxe : ts = [] := List.eq_nil_of_length_eq_zero hlen.symm
    subst hxe
    refine (twinA_none n w).mono ?_
    rintro e w' ⟨q, c, rfl, h1, h2⟩
    exact ⟨q, c, rfl, own_mono h1 (by omega), h2⟩
  | some ad =>
    refine (twinA_some n ad len cap ts w (hide (row_cells hrow)) (by omega) (by omega) h20).mono ?_
    rintro e w' ⟨q, c, rfl, h1, h2⟩
    exact ⟨q, c, rfl, own_mono h1 (by omega), h2⟩
end Go.Proofs.Ytmoalmpcobljkaa.Sb
