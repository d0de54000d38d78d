/- What the document's own words, Name and Fact answer. -/
import Derived.Test.YtmoalmpcobljkaaFactI
import Derived.Test.YtmoalmpcobljkaaOwnS
namespace Go.Proofs.Ytmoalmpcobljkaa
open Go.RowKit
open V

def wordsB : List ByteArray := [⟨#[102, 97, 99, 116]⟩, ⟨#[114, 117, 108, 101]⟩, ⟨#[112, 97, 116, 116, 101, 114, 110]⟩, ⟨#[110, 111, 116]⟩, ⟨#[97, 110, 100]⟩, ⟨#[111, 114]⟩, ⟨#[98, 101, 102, 111, 114, 101]⟩, ⟨#[111, 110, 99, 101]⟩, ⟨#[97, 108, 119, 97, 121, 115]⟩, ⟨#[115, 105, 110, 99, 101]⟩, ⟨#[100, 114, 111, 112]⟩]
theorem wordsB_l : wordsB.map (fun s => s.data.toList) = wordsL := rfl

set_option maxHeartbeats 1000000 in
theorem refWords_any (w : World) :
    Calls Try.prog 42 #[] w fun e w' => e = .returned (.slice (some ⟨w.heap.size, 0, none⟩) 11 11) ∧ w' = w.alloc (.cells #[.string ⟨#[102, 97, 99, 116]⟩, .string ⟨#[114, 117, 108, 101]⟩, .string ⟨#[112, 97, 116, 116, 101, 114, 110]⟩, .string ⟨#[110, 111, 116]⟩, .string ⟨#[97, 110, 100]⟩, .string ⟨#[111, 114]⟩, .string ⟨#[98, 101, 102, 111, 114, 101]⟩, .string ⟨#[111, 110, 99, 101]⟩, .string ⟨#[97, 108, 119, 97, 121, 115]⟩, .string ⟨#[115, 105, 110, 99, 101]⟩, .string ⟨#[100, 114, 111, 112]⟩] 9) := by
  go_enter Try.func42, Try.ntmps42
  go_wp2_with fail
  go_ret
  exact ⟨rfl, rfl⟩

theorem words_cell (w : World) (k : Nat) (hk : k < 11) : (w.alloc (.cells #[.string ⟨#[102, 97, 99, 116]⟩, .string ⟨#[114, 117, 108, 101]⟩, .string ⟨#[112, 97, 116, 116, 101, 114, 110]⟩, .string ⟨#[110, 111, 116]⟩, .string ⟨#[97, 110, 100]⟩, .string ⟨#[111, 114]⟩, .string ⟨#[98, 101, 102, 111, 114, 101]⟩, .string ⟨#[111, 110, 99, 101]⟩, .string ⟨#[97, 108, 119, 97, 121, 115]⟩, .string ⟨#[115, 105, 110, 99, 101]⟩, .string ⟨#[100, 114, 111, 112]⟩] 9)).cell? ⟨w.heap.size, k, none⟩ = some (.string (wordsB[k]'hk)) := by
  rw [Lib.cell_of_heap (heap_alloc_new w _)]
  have e : (#[.string ⟨#[102, 97, 99, 116]⟩, .string ⟨#[114, 117, 108, 101]⟩, .string ⟨#[112, 97, 116, 116, 101, 114, 110]⟩, .string ⟨#[110, 111, 116]⟩, .string ⟨#[97, 110, 100]⟩, .string ⟨#[111, 114]⟩, .string ⟨#[98, 101, 102, 111, 114, 101]⟩, .string ⟨#[111, 110, 99, 101]⟩, .string ⟨#[97, 108, 119, 97, 121, 115]⟩, .string ⟨#[115, 105, 110, 99, 101]⟩, .string ⟨#[100, 114, 111, 112]⟩] : Array Value) = (wordsB.map Value.string).toArray := rfl
  have lg : k < wordsB.length := hk
  rw [e]
  simp [lg]
  rfl
theorem words_no {s : ByteArray} (h : ∀ j (hj : j < 11), (wordsB[j]'hj).data.toList ≠ s.data.toList) : wordsL.contains s.data.toList = false := by
  rw [← wordsB_l]
  rw [Bool.eq_false_iff]
  intro hc
  rw [List.contains_iff_mem] at hc
  obtain ⟨t, ht, e⟩ := List.mem_map.1 hc
  obtain ⟨j, hj, rfl⟩ := List.mem_iff_getElem.1 ht
  exact h j hj e
theorem words_yes {s : ByteArray} (k : Nat) (hk : k < 11) (h : (wordsB[k]'hk).data.toList = s.data.toList) : wordsL.contains s.data.toList = true := by
  rw [← wordsB_l, List.contains_iff_mem, ← h]
  exact List.mem_map.2 ⟨_, List.getElem_mem hk, rfl⟩

set_option maxHeartbeats 2000000 in
theorem refName_any (s : ByteArray) (w : World) (hs : s.size ≤ maxLen) :
    Calls Try.prog 28 #[.string s] w fun e w' => e = .returned (.bool (nameB s.data.toList)) ∧ Below w.heap.size w w' := by
  cases hb : symB s.data.toList with
  | false =>
    have hn : nameB s.data.toList = false := by simp [nameB, hb]
    rw [hn]
    go_enter Try.func28, Try.ntmps28
    go_wp2_with (go_at_call 41; refine (refWord_any _ _ hs).mono ?_; rintro e w1 ⟨rfl, rfl⟩; rw [hb])
    go_ret
    exact ⟨rfl, Below.refl _ _⟩
  | true =>
    have HN : Hid (nameB s.data.toList = !wordsL.contains s.data.toList) := by
      show _ = _
      simp [nameB, hb]
    have hW : Below w.heap.size w (w.alloc (.cells #[.string ⟨#[102, 97, 99, 116]⟩, .string ⟨#[114, 117, 108, 101]⟩, .string ⟨#[112, 97, 116, 116, 101, 114, 110]⟩, .string ⟨#[110, 111, 116]⟩, .string ⟨#[97, 110, 100]⟩, .string ⟨#[111, 114]⟩, .string ⟨#[98, 101, 102, 111, 114, 101]⟩, .string ⟨#[111, 110, 99, 101]⟩, .string ⟨#[97, 108, 119, 97, 121, 115]⟩, .string ⟨#[115, 105, 110, 99, 101]⟩, .string ⟨#[100, 114, 111, 112]⟩] 9)) := (Below.refl _ _).alloc (Nat.le_refl _) _
    have hc := words_cell w
    go_enter Try.func28, Try.ntmps28
    go_wp2_with (first | (go_at_call 41; refine (refWord_any _ _ hs).mono ?_; rintro e w0 ⟨rfl, hw0⟩; subst w0; rw [hb]) | (go_at_call 42; refine (refWords_any _).mono ?_; rintro e w1 ⟨rfl, rfl⟩))
    generalize w.alloc (.cells #[.string ⟨#[102, 97, 99, 116]⟩, .string ⟨#[114, 117, 108, 101]⟩, .string ⟨#[112, 97, 116, 116, 101, 114, 110]⟩, .string ⟨#[110, 111, 116]⟩, .string ⟨#[97, 110, 100]⟩, .string ⟨#[111, 114]⟩, .string ⟨#[98, 101, 102, 111, 114, 101]⟩, .string ⟨#[111, 110, 99, 101]⟩, .string ⟨#[97, 108, 119, 97, 121, 115]⟩, .string ⟨#[115, 105, 110, 99, 101]⟩, .string ⟨#[100, 114, 111, 112]⟩] 9) = W at *
    have HC := hide hc
    clear hc
    go_loop [4] (fun i => ∃ k : Nat, k ≤ 11 ∧ i = .int .i64 k ∧ Hid (∀ j (hj : j < 11), j < k → (wordsB[j]'hj).data.toList ≠ s.data.toList)) (fun i => 11 - (intOf i).toNat)
    case atStart => exact ⟨0, by omega, rfl, hide (by intro j hj h; omega)⟩
    case round =>
      obtain ⟨k, hk, rfl, HK⟩ := hrel
      by_cases hlt : k < 11
      · have c0 := unhide HC k hlt
        by_cases he : (wordsB[k]'hlt).data.toList = s.data.toList
        · have d0 : ((wordsB[k]'hlt).toList == s.toList) = true := by rw [ByteArray.toList_eq, ByteArray.toList_eq]; exact beq_iff_eq.2 he
          have HR : Hid (nameB s.data.toList = false) := by
            show _ = _
            rw [unhide HN, words_yes k hlt he]; rfl
          clear he
          generalize (wordsB[k]'hlt) = t at c0 d0
          go_wp2_with fail
          go_ret
          exact ⟨ret_bool' (unhide HR).symm, hW⟩
        · have d0 : ((wordsB[k]'hlt).toList == s.toList) = false := by rw [ByteArray.toList_eq, ByteArray.toList_eq]; exact beq_eq_false_iff_ne.2 he
          have HR : Hid (∀ j (hj : j < 11), j < k + 1 → (wordsB[j]'hj).data.toList ≠ s.data.toList) := by
            show ∀ j (hj : j < 11), j < k + 1 → (wordsB[j]'hj).data.toList ≠ s.data.toList
            intro j hj h
            by_cases hjk : j = k
            · subst hjk; exact he
            · exact unhide HK j hj (by omega)
          clear he
          generalize (wordsB[k]'hlt) = t at c0 d0
          go_wp2_with fail
          go_round
          case rel => exact ⟨k + 1, by omega, by go_num, HR⟩
          case measure => simp [intOf]; omega
      · have HR : Hid (nameB s.data.toList = true) := by
          show _ = _
          rw [unhide HN, words_no (fun j hj => unhide HK j hj (by omega))]; rfl
        have hk11 : k = 11 := by omega
        subst hk11
        go_wp2_with fail
        go_ret
        exact ⟨ret_bool' (unhide HR).symm, hW⟩

theorem refValue_vb (v : Vb) (w : World) (hs : v.s.size ≤ 200) :
    Calls Try.prog 29 #[.agg #[.int .i64 v.k, .int .i64 v.n, .string v.s]] w fun e w' => e = .returned (.bool (rightV v.l)) ∧ Below w.heap.size w w' :=
  refValue_any _ _ _ w (by omega)

set_option maxHeartbeats 1000000 in
theorem refFact_any (n : ByteArray) (a : Option Addr) (len cap : Nat) (vs : List Vb) (w : World) (hn : n.size ≤ 200) (hv : ∀ v ∈ vs, v.s.size ≤ 200) (hrow : RowV w a vs) (hl : len ≤ vs.length) (hl' : vs.length ≤ len) (h20 : len ≤ 20) :
    Calls Try.prog 15 #[.agg #[.string n, .slice a len cap]] w fun e w' => e = .returned (.bool (rightF (n.data.toList, vs.map Vb.l))) ∧ Below w.heap.size w w' := by
  have hlen : vs.length = len := by omega
  cases hnm : nameB n.data.toList with
  | false =>
    have HR : Hid (rightF (n.data.toList, vs.map Vb.l) = false) := by
      show _ = _
      simp [rightF, hnm]
    clear hlen
    go_enter Try.func15, Try.ntmps15
    go_wp2_with (go_at_call 28; refine (refName_any _ _ (by unfold maxLen; omega)).mono ?_; rintro e w1 ⟨rfl, hb1⟩; rw [hnm])
    go_ret
    exact ⟨ret_bool' (unhide HR).symm, below_box hb1⟩
  | true =>
    by_cases h5 : 5 < len
    · have HR : Hid (rightF (n.data.toList, vs.map Vb.l) = false) := by
        show _ = _
        simp [rightF, hlen]; intros; omega
      have d5 : decide (5 < (len : Int)) = true := by simp; omega
      clear hlen
      go_enter Try.func15, Try.ntmps15
      go_wp2_with (go_at_call 28; refine (refName_any _ _ (by unfold maxLen; omega)).mono ?_; rintro e w1 ⟨rfl, hb1⟩; rw [hnm]; obtain ⟨hcl, hfr⟩ := bcell hb1)
      go_ret
      exact ⟨ret_bool' (unhide HR).symm, below_box hb1⟩
    · have d5 : decide (5 < (len : Int)) = false := by simp; omega
      have HR : Hid (rightF (n.data.toList, vs.map Vb.l) = (vs.map Vb.l).all rightV) := by
        show _ = _
        simp [rightF, hnm, hlen]; omega
      clear hlen
      have hby : Below w.heap.size w (w.alloc (.cells #[.string n, .slice a len cap] 27)) := (Below.refl _ _).alloc (Nat.le_refl _) _
      have k1 : (w.alloc (.cells #[.string n, .slice a len cap] 27)).cell? ⟨w.heap.size, 1, none⟩ = some (.slice a len cap) := by rw [Lib.cell_of_heap (heap_alloc_new w _)]; rfl
      have hsz : w.heap.size < (w.alloc (.cells #[.string n, .slice a len cap] 27)).heap.size := by simp
      go_enter Try.func15, Try.ntmps15
      go_wp2_with (go_at_call 28; refine (refName_any _ _ (by unfold maxLen; omega)).mono ?_; rintro e w1 ⟨rfl, hb1⟩; rw [hnm]; obtain ⟨hcl, hfr⟩ := bcell hb1)
      have hw1 := below_box hb1
      have m1 : w1.cell? ⟨w.heap.size, 1, none⟩ = some (.slice a len cap) := (hb1.cell (p := ⟨_, _, none⟩) hsz).trans k1
      have hs1 : w.heap.size < w1.heap.size := by have := hb1.size; omega
      clear hb1 hcl hfr hnm k1 hsz hby
      go_loopw [3] (fun i wr => ∃ k : Nat, k ≤ len ∧ i = .int .i64 k ∧ Hid (((vs.take k).map Vb.l).all rightV = true) ∧ Below w1.heap.size w1 wr) (fun i _ => len - (intOf i).toNat)
      case atStart => exact ⟨0, Nat.zero_le _, rfl, hide rfl, Below.refl _ _⟩
      case round =>
        obtain ⟨k, hk, rfl, HK, hbw⟩ := hrel
        have r1 : wr.cell? ⟨w.heap.size, 1, none⟩ = some (.slice a len cap) := (hbw.cell (p := ⟨_, _, none⟩) hs1).trans m1
        have hww : Below w.heap.size w wr := bt hw1 hbw
        by_cases hlt : k < len
        · obtain ⟨b, o, ha, hbl, c0, c1, c2⟩ := (hrow.on hww).up (show k < vs.length by omega)
          subst ha
          have hsz := hv vs[k] (List.getElem_mem (by omega))
          cases hr : rightV vs[k].l with
          | false =>
            have HF := hide (all_get (show k < vs.length by omega) hr)
            go_wp2_with (go_at_call 29; refine (refValue_vb _ _ hsz).mono ?_; rintro e w2 ⟨rfl, hb2⟩; rw [hr])
            go_ret
            exact ⟨ret_bool' (by rw [unhide HR, unhide HF]), bt hww hb2⟩
          | true =>
            have HN := hide (all_take (show k < vs.length by omega) hr (unhide HK))
            go_wp2_with (go_at_call 29; refine (refValue_vb _ _ hsz).mono ?_; rintro e w2 ⟨rfl, hb2⟩; rw [hr])
            go_roundw
            case rel => exact ⟨k + 1, by omega, by go_num, HN, bt hbw hb2⟩
            case measure => simp [intOf]; omega
        · have HF : Hid ((vs.map Vb.l).all rightV = true) := by
            have h := unhide HK
            rw [List.take_of_length_le (by omega)] at h
            exact h
          go_wp2_with fail
          go_ret
          exact ⟨ret_bool' (by rw [unhide HR, unhide HF]), hww⟩
end Go.Proofs.Ytmoalmpcobljkaa
