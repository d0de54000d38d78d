/- What the document's own FactText, the law's Many and constablekeep.TwinFact answer. -/
import Derived.Test.YtbdfdpioegjfhaaDoorFactM
import Derived.Test.YtbdfdpioegjfhaaDoorOwnT
import Derived.Deep.DeepAppendWide
namespace Go.Proofs.YtbdfdpioegjfhaaDoor
open Go.RowKit
open V

theorem refText_vb (v : Vb) (t : ByteArray) (w : World) (hr : rightV v.l = true) (ht : Hid (t.data.toList = textL v.k v.n v.s.data.toList)) (hs : v.s.size ≤ 200) :
    Calls Tryd.prog 39 #[.agg #[.int .i64 v.k, .int .i64 v.n, .string v.s]] w fun e w' => e = .returned (.string t) ∧ Below w.heap.size w w' :=
  refText_any _ _ _ t w hr (unhide ht) (by omega)

set_option maxHeartbeats 2000000 in
theorem refFText_any (n : ByteArray) (a : Option Addr) (len cap : Nat) (vs : List Vb) (w : World) (hn : n.size ≤ 200) (hv : ∀ v ∈ vs, v.s.size ≤ 200) (hrow : RowV w a vs) (hl : len ≤ vs.length) (hl' : vs.length ≤ len) (hr : rightF (n.data.toList, vs.map Vb.l) = true) :
    Calls Tryd.prog 20 #[.agg #[.string n, .slice a len cap]] w fun e w' => e = .returned (.string ⟨(textF (n.data.toList, vs.map Vb.l)).toArray⟩) ∧ Below w.heap.size w w' := by
  have hright : ∀ v ∈ vs, rightV v.l = true := by
    have h2 : (vs.map Vb.l).all rightV = true := by
      simp only [rightF, Bool.and_eq_true] at hr
      exact hr.2.2
    intro v hm
    exact List.all_eq_true.1 h2 v.l (List.mem_map.2 ⟨v, hm, rfl⟩)
  have h5 : len ≤ 5 := by
    simp only [rightF, Bool.and_eq_true, decide_eq_true_eq, List.length_map] at hr
    omega
  clear hr
  have hby : Below w.heap.size w (w.alloc (.cells #[.string n, .slice a len cap] 24)) := (Below.refl _ _).alloc (Nat.le_refl _) _
  have k1 : (w.alloc (.cells #[.string n, .slice a len cap] 24)).cell? ⟨w.heap.size, 1, none⟩ = some (.slice a len cap) := by rw [Lib.cell_of_heap (heap_alloc_new w _)]; rfl
  go_enter Tryd.func20, Tryd.ntmps20
  go_wp2_with fail
  generalize w.alloc (.cells #[.string n, .slice a len cap] 24) = W at *
  go_loopw [3, 4] (fun s i wr => ∃ (k : Nat) (sb : ByteArray), k ≤ len ∧ i = .int .i64 k ∧ s = .string sb ∧ sb.size ≤ 200 + 124 * k ∧ Hid (sb.data.toList = n.data.toList ++ joinL [40] ((vs.take k).map Vb.l)) ∧ Below W.heap.size W wr) (fun _ i _ => len - (intOf i).toNat)
  case atStart => exact ⟨0, n, Nat.zero_le _, rfl, rfl, by omega, hide (by simp [joinL]), Below.refl _ _⟩
  case round =>
    obtain ⟨k, sb, hk, rfl, rfl, hsb, HS, hbw⟩ := hrel
    have r1 := cell_on hbw k1
    have hww : Below w.heap.size w wr := bt hby hbw
    by_cases hlt : k < len
    · obtain ⟨b, o, ha, hbl, c0, c1, c2⟩ := (hrow.on hww).up (show k < vs.length by omega)
      subst ha
      have hsz := hv vs[k] (List.getElem_mem (by omega))
      have hrt := hright vs[k] (List.getElem_mem (by omega))
      have htl : (textL vs[k].k vs[k].n vs[k].s.data.toList).length ≤ 122 := text_le hrt
      have HJ := hide (join_take (show k < vs.length by omega) [40])
      obtain ⟨t, ht⟩ : ∃ t : ByteArray, t.data.toList = textL vs[k].k vs[k].n vs[k].s.data.toList := ⟨⟨(textL vs[k].k vs[k].n vs[k].s.data.toList).toArray⟩, by simp⟩
      have hts : t.size ≤ 122 := by
        have : t.size = t.data.toList.length := by simp
        rw [this, ht]; exact htl
      have HT := hide ht
      clear ht htl
      by_cases hz : k = 0
      · subst hz
        simp only [Nat.zero_mul, Nat.add_zero] at c0 c1 c2
        go_wp2_with (go_at_call 39; refine (refText_vb _ t _ hrt HT hsz).mono ?_; rintro e w2 ⟨rfl, hb2⟩)
        go_roundw
        case rel =>
          refine ⟨1, sb ++ ⟨#[40]⟩ ++ t, by omega, by go_num, rfl, ?_, ?_, bt hbw hb2⟩
          · rw [size_app2, size_app2]
            have : (⟨#[40]⟩ : ByteArray).size = 1 := rfl
            omega
          · show _ = _
            rw [data_app2, data_app2, unhide HJ, unhide HS, unhide HT]
            simp
        case measure => simp [intOf]; omega
      · have dz : ((k : Int) == 0) = false := by simp; omega
        go_wp2_with (go_at_call 39; refine (refText_vb _ t _ hrt HT hsz).mono ?_; rintro e w2 ⟨rfl, hb2⟩)
        go_roundw
        case rel =>
          refine ⟨k + 1, sb ++ ⟨#[44, 32]⟩ ++ t, by omega, by go_num, rfl, ?_, ?_, bt hbw hb2⟩
          · rw [size_app2, size_app2]
            have : (⟨#[44, 32]⟩ : ByteArray).size = 2 := rfl
            omega
          · show _ = _
            rw [data_app2, data_app2, unhide HJ, unhide HS, unhide HT]
            simp [hz]
        case measure => simp [intOf]; omega
    · by_cases hz : len = 0
      · have HE : Hid (sb = ⟨(textF (n.data.toList, vs.map Vb.l)).toArray⟩) := by
          show _ = _
          have hv0 : vs = [] := List.eq_nil_of_length_eq_zero (by omega)
          have h := unhide HS
          subst hv0
          rw [← Lib.mk_data sb, h]
          simp [textF, joinL]
        have hk0 : k = 0 := by omega
        subst hk0
        subst hz
        go_wp2_with fail
        go_ret
        exact ⟨ret_str (unhide HE), hww⟩
      · have HE : Hid (sb ++ ⟨#[41]⟩ = ⟨(textF (n.data.toList, vs.map Vb.l)).toArray⟩) := by
          show _ = _
          have h1 : vs.take k = vs := List.take_of_length_le (by omega)
          have h2 : (vs.map Vb.l).isEmpty = false := by
            cases vs with
            | nil => simp at hl; omega
            | cons v r => rfl
          have h := unhide HS
          rw [h1] at h
          rw [← Lib.mk_data (sb ++ ⟨#[41]⟩), data_app2, h]
          simp [textF, h2]
        have hp : 0 < len := by omega
        go_wp2_with fail
        go_ret
        exact ⟨ret_str (unhide HE), hww⟩

set_option maxHeartbeats 1000000 in
theorem many_any (a : Option Addr) (len cap : Nat) (fs : List Fb) (w : World) (hrow : RowF w a fs) (hl : len ≤ fs.length) (hl' : fs.length ≤ len) :
    Calls Tryd.prog 7 #[.slice a len cap] w fun e w' => ((e = .returned (.bool true)) ∨ (e = .returned (.bool false) ∧ len ≤ 60 ∧ ∀ f ∈ fs, f.Light)) ∧ Below w.heap.size w w' := by
  by_cases h60 : 60 < len
  · go_enter Tryd.func7, Tryd.ntmps7
    go_wp2_with fail
    go_ret
    exact ⟨Or.inl rfl, Below.refl _ _⟩
  · go_enter Tryd.func7, Tryd.ntmps7
    go_wp2_with fail
    go_loopw [3] (fun i wr => ∃ k : Nat, k ≤ len ∧ i = .int .i64 k ∧ Hid (∀ f ∈ fs.take k, f.Light) ∧ Below w.heap.size w wr) (fun i _ => len - (intOf i).toNat)
    case atStart => exact ⟨0, Nat.zero_le _, rfl, hide (by simp), Below.refl _ _⟩
    case round =>
      obtain ⟨k, hk, rfl, HK, hbw⟩ := hrel
      by_cases hlt : k < len
      · obtain ⟨b, o, ha, hbl, c0, c1, hin⟩ := (hrow.on hbw).up (show k < fs.length by omega)
        subst ha
        go_wp2_with fail
        refine (heavy_fb fs[k] wr hin).mono ?_
        rintro e w1 ⟨rfl | ⟨rfl, lf⟩, hb1⟩
        · go_wp2_with fail
          go_ret
          exact ⟨Or.inl rfl, bt hbw hb1⟩
        · have HN : Hid (∀ f ∈ fs.take (k + 1), f.Light) := by
            show ∀ f ∈ fs.take (k + 1), f.Light
            intro f hf
            rw [List.take_succ_eq_append_getElem (show k < fs.length by omega)] at hf
            rcases List.mem_append.1 hf with h | h
            · exact unhide HK f h
            · rw [List.mem_singleton.1 h]; exact lf
          go_wp2_with fail
          go_roundw
          case rel => exact ⟨k + 1, by omega, by go_num, HN, bt hbw hb1⟩
          case measure => simp [intOf]; omega
      · have HN : Hid (∀ f ∈ fs, f.Light) := by
          have h := unhide HK
          rw [List.take_of_length_le (by omega)] at h
          exact h
        go_wp2_with fail
        go_ret
        exact ⟨Or.inr ⟨rfl, by omega, unhide HN⟩, hbw⟩
end Go.Proofs.YtbdfdpioegjfhaaDoor
