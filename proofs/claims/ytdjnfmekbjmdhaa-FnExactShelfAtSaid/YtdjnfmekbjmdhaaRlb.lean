/- Small facts for the laws on shelves: what a measure says of each row; rows of the same releases compare as the same. -/
import Derived.Test.YtdjnfmekbjmdhaaReq
namespace Go.Proofs.Ytdjnfmekbjmdhaa
open Go.RowKit Go.Sort

theorem rl_each {M : List Rel} (h : rlSz M ≤ 1048576) : ∀ q ∈ M, q.2.2.2.length ≤ 1048576 ∧ ∀ p ∈ q.2.2.2, p.2.length ≤ 1048576 := fun q hq => by
  obtain ⟨i, hi, rfl⟩ := List.getElem_of_mem hq
  have := rlSz_mem M i _ (List.getElem?_eq_getElem hi)
  refine ⟨by omega, fun p hp => ?_⟩
  obtain ⟨j, hj, rfl⟩ := List.getElem_of_mem hp
  have := ndSz_mem _ j _ (List.getElem?_eq_getElem hj)
  omega
theorem eqReleaseS_same {v v' : Value} {M : List Rel} {w : World} (hl : M.length ≤ 1048576) (hq : ∀ q ∈ M, q.2.2.2.length ≤ 1048576 ∧ ∀ p ∈ q.2.2.2, p.2.length ≤ 1048576) (h : RlAt w w.heap.size v M) (h' : RlAt w w.heap.size v' M) :
    Calls Try.prog 20 #[v, v'] w fun e w' => e = .returned (.bool true) ∧ Below w.heap.size w w' := by
  have := eqReleaseS_any v v' M M w hl hl hq hq h h'
  rwa [decide_eq_true rfl] at this

end Go.Proofs.Ytdjnfmekbjmdhaa
