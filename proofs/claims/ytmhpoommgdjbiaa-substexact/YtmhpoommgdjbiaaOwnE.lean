/- What strings.Clone answers. -/
import Derived.Test.YtmhpoommgdjbiaaOwnD
import Derived.Test.YtmhpoommgdjbiaaShelf
namespace Go.Proofs.Ytmhpoommgdjbiaa
open Go.RowKit
open V

set_option maxHeartbeats 400000 in
theorem clone_any (s : ByteArray) (w : World) (hs : s.size ≤ 1000) :
    Calls Try.prog 26 #[.string s] w fun e w' => e = .returned (.string s) ∧ Below w.heap.size w w' := by
  go_enter Try.func26, Try.ntmps26
  go_wp2_with (go_at_call 38; refine (Try.stringslite_Clone _ _ (by omega)).mono ?_; rintro e w' ⟨rfl, hb⟩)
  go_ret
  exact ⟨rfl, hb⟩

end Go.Proofs.Ytmhpoommgdjbiaa
