/- What the document's own FactText, the law's Many and constablekeep.TwinFact answer. -/
import Derived.Test.YtmnonjacomabbaaFactM
import Derived.Deep.DeepAppendWide
namespace Go.Proofs.Ytmnonjacomabbaa
open Go.RowKit
open V

set_option maxHeartbeats 1000000 in
theorem many_any (a : Option Addr) (len cap : Nat) (fs : List Fb) (w : World) (hrow : RowF w a fs) (hl : len ≤ fs.length) (hl' : fs.length ≤ len) :
    Calls Try.prog 8 #[.slice a len cap] w fun e w' => ((e = .returned (.bool true)) ∨ (e = .returned (.bool false) ∧ len ≤ 60 ∧ ∀ f ∈ fs, f.Light)) ∧ Below w.heap.size w w' := by
  by_cases h60 : 60 < len
  · go_enter Try.func8, Try.ntmps8
    go_wp2_with fail
    go_ret
    exact ⟨Or.inl rfl, Below.refl _ _⟩
  · go_enter Try.func8, Try.ntmps8
    go_wp2_with fail
    go_loopw [3] (fun i wr => ∃ k : Nat, k ≤ len ∧ i = .int .i64 k ∧ Hid (∀ f ∈ fs.take k, f.Light) ∧ Below w.heap.size w wr) (fun i _ => len - (intOf i).toNat)
    case atStart => exact ⟨0, Nat.zero_le _, rfl, hide (by simp), Below.refl _ _⟩
    case round =>
      obtain ⟨k, hk, rfl, HK, hbw⟩ := hrel
      by_cases hlt : k < len
      · obtain ⟨b, o, ha, hbl, c0, c1, hin⟩ := (hrow.on hbw).up (show k < fs.length by omega)
        subst ha
        go_wp2_with fail
        refine (heavy_fb fs[k] wr hin).mono ?_
        rintro e w1 ⟨rfl | ⟨rfl, lf⟩, hb1⟩
        · go_wp2_with fail
          go_ret
          exact ⟨Or.inl rfl, bt hbw hb1⟩
        · have HN : Hid (∀ f ∈ fs.take (k + 1), f.Light) := by
            show ∀ f ∈ fs.take (k + 1), f.Light
            intro f hf
            rw [List.take_succ_eq_append_getElem (show k < fs.length by omega)] at hf
            rcases List.mem_append.1 hf with h | h
            · exact unhide HK f h
            · rw [List.mem_singleton.1 h]; exact lf
          go_wp2_with fail
          go_roundw
          case rel => exact ⟨k + 1, by omega, by go_num, HN, bt hbw hb1⟩
          case measure => simp [intOf]; omega
      · have HN : Hid (∀ f ∈ fs, f.Light) := by
          have h := unhide HK
          rw [List.take_of_length_le (by omega)] at h
          exact h
        go_wp2_with fail
        go_ret
        exact ⟨Or.inr ⟨rfl, by omega, unhide HN⟩, hbw⟩
end Go.Proofs.Ytmnonjacomabbaa
