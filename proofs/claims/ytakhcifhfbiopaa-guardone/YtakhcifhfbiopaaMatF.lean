/- What the laws' Heavy of an atom answers. -/
import Derived.Test.YtakhcifhfbiopaaAtmA
namespace Go.Proofs.Ytakhcifhfbiopaa.Sb
open Go.RowKit
open V

set_option maxHeartbeats 1000000 in
theorem aheavy_any (n : ByteArray) (a : Option Addr) (len cap : Nat) (ts : List Bb) (w : World) (hA : Lies w a len cap ts) :
    Calls Try.prog 23 #[.agg #[.string n, .slice a len cap]] w fun e w' => ((e = .returned (.bool true)) ∨ (e = .returned (.bool false) ∧ n.size ≤ 200 ∧ len ≤ 20 ∧ ∀ t ∈ ts, Lt t)) ∧ Below w.heap.size w w' := by
  have hl := hA.le
  have hl' := hA.ge
  by_cases hn : 200 < n.size
  · go_enter Try.func23, Try.ntmps23
    go_wp2_with fail
    go_ret
    exact ⟨Or.inl rfl, (Below.refl _ _).alloc (Nat.le_refl _) _⟩
  · by_cases h20 : 20 < len
    · go_enter Try.func23, Try.ntmps23
      go_wp2_with fail
      go_ret
      exact ⟨Or.inl rfl, (Below.refl _ _).alloc (Nat.le_refl _) _⟩
    · have hby : Below w.heap.size w (w.alloc (bxA n a len cap)) := (Below.refl _ _).alloc (Nat.le_refl _) _
      have hrow' := hA.row.on hby
      clear hA
      go_enter Try.func23, Try.ntmps23
      go_wp2_with fail
      go_loop [3] (fun i => ∃ k : Nat, k ≤ len ∧ i = .int .i64 k ∧ Hid (∀ t ∈ ts.take k, Lt t)) (fun i => len - (intOf i).toNat)
      case atStart => exact ⟨0, Nat.zero_le _, rfl, hide (by simp)⟩
      case round =>
        obtain ⟨k, hk, rfl, HK⟩ := hrel
        by_cases hlt : k < len
        · obtain ⟨b, o, ha, hbl, c0, c1, c2, c3⟩ := hrow'.up (show k < ts.length by omega)
          subst ha
          by_cases hs : 200 < ts[k].1.size
          · go_wp2_with fail
            go_ret
            exact ⟨Or.inl rfl, hby⟩
          · by_cases hs2 : 200 < ts[k].2.2.2.size
            · go_wp2_with fail
              go_ret
              exact ⟨Or.inl rfl, hby⟩
            · have HN : Hid (∀ t ∈ ts.take (k + 1), Lt t) := by
                show ∀ t ∈ ts.take (k + 1), Lt t
                intro v hv
                rw [List.take_succ_eq_append_getElem (show k < ts.length by omega)] at hv
                rcases List.mem_append.1 hv with h | h
                · exact unhide HK v h
                · rw [List.mem_singleton.1 h]; exact ⟨by omega, by omega⟩
              go_wp2_with fail
              go_round
              case rel => exact ⟨k + 1, by omega, by go_num, HN⟩
              case measure => simp [intOf]; omega
        · have HN : Hid (∀ t ∈ ts, Lt t) := by
            have h := unhide HK
            rw [List.take_of_length_le (by omega)] at h
            exact h
          go_wp2_with fail
          go_ret
          exact ⟨Or.inr ⟨rfl, by omega, by omega, fun _ _ _ _ h => unhide HN _ h⟩, hby⟩
end Go.Proofs.Ytakhcifhfbiopaa.Sb
