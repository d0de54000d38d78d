/- What the twin of a list of Binds is. -/
import Derived.Test.YtnomndpoklolfaaSubG
import Derived.Laws.AppendOwnNone
import Derived.Deep.DeepAppendWide
namespace Go.Proofs.Ytnomndpoklolfaa.Sb
open Go.RowKit
open V
set_option maxHeartbeats 2000000 in
theorem twin_any (a : Option Addr) (len cap : Nat) (xs : List Bb) (w : World) (hx : Lies w a len cap xs) (h1k : len ≤ 1000) :
    Calls Try.prog 12 #[.slice a len cap] w fun e w' => ∃ (q : Option Addr) (n c : Nat), e = .returned (.slice q n c) ∧ Lies w' q n c xs ∧ Below w.heap.size w w' := by
  obtain ⟨i0, hi, hz0, hz1, hz2⟩ := info_parts infoB
  obtain ⟨hrow, hlen, hnil, hcap⟩ := hx
  cases a with
  | none =>
    have h0 := hnil rfl
    subst h0
    have hl0 : len = 0 := by omega
    subst hl0
    have hxe : xs = [] := List.eq_nil_of_length_eq_zero hlen.symm
    subst hxe
    clear hrow hlen hnil hcap
    go_enter Try.func12, Try.ntmps12
    go_wp2_with (at_builtin; refine wpList_append_own_none rfl _ _ 23 rfl w.heap.size 57 i0 4 Try.underlying23 hi _ 0 [] rfl (World.ownsRow_nil _ _ _ _) rfl ?_)
    go_ret
    exact ⟨none, 0, 0, rfl, lies_none _, Below.refl _ _⟩
  | some ad =>
    have hcs := hide (row_cells hrow)
    have hfl := hide (flatB_len xs)
    have hl1 : len ≤ xs.length := by omega
    have hl2 : xs.length ≤ len := by omega
    clear hlen hrow hnil
    go_enter Try.func12, Try.ntmps12
    go_wp2_with (at_builtin; refine wpList_append_own_wide _ rfl _ _ 23 rfl w.heap.size 57 i0 (.agg #[.string ⟨#[]⟩, .int .i64 0, .int .i64 0, .string ⟨#[]⟩]) 4 48 Try.underlying23 hi hz0 hz1 hz2 rfl (by decide) _ 0 [] rfl (World.ownsRow_nil _ _ _ _) ad len cap (flatB xs) rfl ?c0 ?c1 ?c2 ?c3 ?c4 ?c5 ?_)
    case c0 => rw [unhide hfl]; omega
    case c1 => exact unhide hcs
    case c2 => exact flatB_oneCell xs
    case c3 => unfold maxLen; omega
    case c4 => omega
    case c5 => exact Nat.le_refl _
    intro v' w3 hown3 hgrow hnil3
    obtain ⟨aq3, cq3, rfl⟩ := own_slice hown3
    have hbw3 := (Below.refl w.heap.size w).grown hgrow (Nat.le_refl _) (fun m hm => by cases hm)
    have hL := lies_own (xs := xs) hown3
    clear hgrow hnil3 hcs hown3
    go_wp2_with fail
    go_ret
    exact ⟨aq3, _, cq3, rfl, hL, hbw3⟩

end Go.Proofs.Ytnomndpoklolfaa.Sb
