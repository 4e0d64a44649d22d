/- The contract of the model's draw of a shelf and needs, over this seat's translation: whatever is drawn, at most 31 releases and nine needs; nothing that was there has changed. Condition: the code is readable. -/
import Derived.Test.YtgnjhmmedogcoaaDshelf
import Derived.Test.YtgnjhmmedogcoaaGe
namespace Go.Proofs.Ytgnjhmmedogcoaa
open Go.RowKit Go.Sort

namespace Dnm
open Foot Dsh
def AnyNames (w : World) (e : Ending) (w' : World) : Prop := ∃ S sa caps M na ncap, e = .returned (.tuple #[.slice sa S.length caps, .slice na M.length ncap]) ∧ RlAt w' w'.heap.size (.slice sa S.length caps) S ∧ NdAt w' w'.heap.size (.slice na M.length ncap) M ∧ S.length ≤ 31 ∧ SzOk S ∧ M.length ≤ 9 ∧ (∀ q ∈ M, q.2.length ≤ 41) ∧ Below w.heap.size w w'

end Dnm
end Go.Proofs.Ytgnjhmmedogcoaa
