/- constablelaw04.SetsExact answers true, whatever the lists and the fact. -/
import Derived.Test.YtmnonjacomabbaaExA
import Derived.Test.YtmnonjacomabbaaExB
namespace Go.Proofs.Ytmnonjacomabbaa
open Go.RowKit
open V

theorem exact_law (al am : Option Addr) (ll cl lm cm : Nat) (xs ys : List Fb) (f : Fb) (w : World) (hx : RowF w al xs) (hy : RowF w am ys) (hlx : ll = xs.length) (hly : lm = ys.length) (nx : ∀ f ∈ xs, f.a = none → f.cap = 0) (ny : ∀ f ∈ ys, f.a = none → f.cap = 0) (nm : am = none → cm = 0) (hf : f.In w) :
    Calls Try.prog 3 #[.slice al ll cl, .slice am lm cm, .agg #[.string f.n, .slice f.a f.len f.cap]] w fun e w' => e = .returned (.bool true) ∧ Below w.heap.size w w' := by
  cases h1 : setB (xs.map Fb.l) with
  | false =>
    cases hp : (xs.map Fb.l).all rightF with
    | false => exact exact_ffff _ _ al am ll cl lm cm xs ys f w hx hy hlx hly nx ny nm hf (hide hp) (hide h1) (hide rfl) (hide rfl)
    | true => exact exact_tfff _ _ al am ll cl lm cm xs ys f w hx hy hlx hly nx ny nm hf (hide hp) (hide h1) (hide rfl) (hide rfl)
  | true =>
    have hp := set_all h1
    cases hf' : rightF f.l with
    | false =>
      cases h2 : setB (ys.map Fb.l) with
      | false => exact exact_ttff al am ll cl lm cm xs ys f w hx hy hlx hly nx ny nm hf (hide hp) (hide h1) (hide hf') (hide h2)
      | true => exact exact_ttft al am ll cl lm cm xs ys f w hx hy hlx hly nx ny nm hf (hide hp) (hide h1) (hide hf') (hide h2)
    | true =>
      cases h2 : setB (ys.map Fb.l) with
      | false => exact exact_tttf al am ll cl lm cm xs ys f w hx hy hlx hly nx ny nm hf (hide hp) (hide h1) (hide hf') (hide h2)
      | true => exact exact_tttt al am ll cl lm cm xs ys f w hx hy hlx hly nx ny nm hf (hide hp) (hide h1) (hide hf') (hide h2)
end Go.Proofs.Ytmnonjacomabbaa
