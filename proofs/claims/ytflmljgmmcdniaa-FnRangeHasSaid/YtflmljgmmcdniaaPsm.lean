/- Small contracts for the promises' laws of ranges: two rows of the same spans are the same range; a range is one. Condition: at most 1048576 spans. -/
import Derived.Test.YtflmljgmmcdniaaSame
import Derived.Test.YtflmljgmmcdniaaImok
import Derived.Test.YtflmljgmmcdniaaOwn
namespace Go.Proofs.Ytflmljgmmcdniaa
open Go.RowKit Go.Sort

theorem same_true {v v' : Value} {L : List (Int × Int)} {w : World} (hl : L.length ≤ 1048576) (h : SpAt w w.heap.size v L) (h' : SpAt w w.heap.size v' L) :
    Calls Try.prog 26 #[.agg #[v], .agg #[v']] w fun e w' => e = .returned (.bool true) ∧ Below w.heap.size w w' := by
  have := sameRange_any v v' L L w hl hl h h'
  rwa [decide_eq_true rfl] at this
theorem rngOk_true {v : Value} {L : List (Int × Int)} {w : World} (hl : L.length ≤ 1048576) (ho : spOk L = true) (h : SpAt w w.heap.size v L) :
    Calls Try.prog 24 #[.agg #[v]] w fun e w' => e = .returned (.bool true) ∧ Below w.heap.size w w' := by
  obtain ⟨a, cap, rfl, hc⟩ := h
  have := implRangeOk_any a cap L w hl ⟨a, cap, rfl, hc⟩
  rwa [ho] at this

end Go.Proofs.Ytflmljgmmcdniaa
