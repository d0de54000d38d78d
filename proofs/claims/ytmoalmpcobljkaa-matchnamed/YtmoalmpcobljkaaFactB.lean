/- What fact.Check answers. -/
import Derived.Test.YtmoalmpcobljkaaFactA
namespace Go.Proofs.Ytmoalmpcobljkaa
open Go.RowKit
open V

theorem all_get {vs : List Vb} {k : Nat} (hk : k < vs.length) (h : rightV vs[k].l = false) : (vs.map Vb.l).all rightV = false := by
  rw [List.all_eq_false]
  exact ⟨vs[k].l, List.mem_map.2 ⟨_, List.getElem_mem hk, rfl⟩, by simp [h]⟩
theorem all_take {vs : List Vb} {k : Nat} (hk : k < vs.length) (h : rightV vs[k].l = true) (hp : ((vs.take k).map Vb.l).all rightV = true) : ((vs.take (k + 1)).map Vb.l).all rightV = true := by
  rw [List.take_succ_eq_append_getElem hk, List.map_append, List.all_append, hp]
  simp [h]

set_option maxHeartbeats 1000000 in
theorem fcheck_any (n : ByteArray) (a : Option Addr) (len cap : Nat) (vs : List Vb) (w : World) (hn : n.size ≤ 200) (hv : ∀ v ∈ vs, v.s.size ≤ 200) (hrow : RowV w a vs) (hl : len ≤ vs.length) (hl' : vs.length ≤ len) (h20 : len ≤ 20) :
    Calls Try.prog 20 #[.agg #[.string n, .slice a len cap]] w fun e w' => e = .returned (.int .i64 (chk (rightF (n.data.toList, vs.map Vb.l)))) ∧ Below w.heap.size w w' := by
  have hlen : vs.length = len := by omega
  cases hnm : nameB n.data.toList with
  | false =>
    rw [chk_f (b := rightF _) (by simp [rightF, hnm])]
    go_enter Try.func20, Try.ntmps20
    go_wp2_with (go_at_call 31; refine (name_any _ _ (by unfold maxLen; omega)).mono ?_; rintro e w1 ⟨rfl, hb1⟩; rw [hnm])
    go_ret
    exact ⟨rfl, below_box hb1⟩
  | true =>
    by_cases h5 : 5 < len
    · rw [chk_f (b := rightF _) (by simp [rightF, hlen]; intros; omega)]
      have d5 : decide (5 < (len : Int)) = true := by simp; omega
      clear hlen
      go_enter Try.func20, Try.ntmps20
      go_wp2_with (go_at_call 31; refine (name_any _ _ (by unfold maxLen; omega)).mono ?_; rintro e w1 ⟨rfl, hb1⟩; rw [hnm]; obtain ⟨hcl, hfr⟩ := bcell hb1)
      go_ret
      exact ⟨rfl, below_box hb1⟩
    · have d5 : decide (5 < (len : Int)) = false := by simp; omega
      have hrf : rightF (n.data.toList, vs.map Vb.l) = (vs.map Vb.l).all rightV := by simp [rightF, hnm, hlen]; omega
      rw [hrf]
      clear hlen hrf
      go_enter Try.func20, Try.ntmps20
      go_wp2_with (go_at_call 31; refine (name_any _ _ (by unfold maxLen; omega)).mono ?_; rintro e w1 ⟨rfl, hb1⟩; rw [hnm]; obtain ⟨hcl, hfr⟩ := bcell hb1)
      have hw1 := below_box hb1
      clear hb1 hcl hfr hnm
      go_loopw [4, 18] (fun _ i wr => ∃ k : Nat, k ≤ len ∧ i = .int .i64 k ∧ Hid (((vs.take k).map Vb.l).all rightV = true) ∧ Below w.heap.size w wr) (fun _ i _ => len - (intOf i).toNat)
      case atStart => exact ⟨0, Nat.zero_le _, rfl, hide rfl, hw1⟩
      case round =>
        obtain ⟨k, hk, rfl, HK, hbw⟩ := hrel
        by_cases hlt : k < len
        · obtain ⟨b, o, ha, hbl, c0, c1, c2⟩ := (hrow.on hbw).up (show k < vs.length by omega)
          subst ha
          have hsz := hv vs[k] (List.getElem_mem (by omega))
          have hbx : Below w.heap.size w (wr.alloc (.cells #[.int .i64 vs[k].k, .int .i64 vs[k].n, .string vs[k].s] 40)) := hbw.alloc hbw.size _
          cases hr : rightV vs[k].l with
          | false =>
            have hc : chk (rightB vs[k].k vs[k].n vs[k].s.data.toList) = 1 := chk_f hr
            have HF := hide (chk_f (all_get (show k < vs.length by omega) hr))
            clear hr
            go_wp2_with (go_at_call 33; refine (check_any _ _ _ _ (by unfold maxLen; omega)).mono ?_; rintro e w2 ⟨rfl, hb2⟩; rw [hc])
            go_ret
            exact ⟨ret_int (unhide HF).symm, bt hbx hb2⟩
          | true =>
            have hc : chk (rightB vs[k].k vs[k].n vs[k].s.data.toList) = 0 := chk_t hr
            have HN := hide (all_take (show k < vs.length by omega) hr (unhide HK))
            clear hr
            go_wp2_with (go_at_call 33; refine (check_any _ _ _ _ (by unfold maxLen; omega)).mono ?_; rintro e w2 ⟨rfl, hb2⟩; rw [hc])
            go_roundw
            case rel => exact ⟨k + 1, by omega, by go_num, HN, bt hbx hb2⟩
            case measure => simp [intOf]; omega
        · have ht : (vs.map Vb.l).all rightV = true := by
            have := unhide HK
            rwa [List.take_of_length_le (by omega)] at this
          have HF := hide (chk_t ht)
          clear ht
          go_wp2_with fail
          go_ret
          exact ⟨ret_int (unhide HF).symm, hbw⟩
end Go.Proofs.Ytmoalmpcobljkaa
