/- What two clashes come to, as plain facts: how long it is. No condition. -/
import Derived.Test.YtdhbjjolgmodjaaGm
import Derived.Test.YtdhbjjolgmodjaaGq
namespace Go.Proofs.Ytdhbjjolgmodjaa
open Go.RowKit Go.Sort

namespace Tmj
open Foot
theorem jn_fine (A B : List Tm) (n : Int) : tmOk ((joinL A B n).getD []) = true ∧ ((joinL A B n).getD []).length ≤ 8 := by
  rcases h : joinL A B n with _ | O
  · exact ⟨rfl, Nat.zero_le _⟩
  · refine ⟨(join_fine h).1, ?_⟩
    unfold joinL at h
    split at h
    · exact go_len h
    · cases h
theorem ok_each {O : List Tm} (h : tmOk O = true) : ∀ q ∈ O, q.2.1.length ≤ 40 := fun _ hq => (spOk_iff.1 (ok_mem h hq).2.2.1).2
theorem sz_le : ∀ {O : List Tm}, (∀ q ∈ O, q.2.1.length ≤ 40) → tmSz O ≤ 40 * O.length
  | [], _ => Nat.zero_le _
  | q :: t, h => by
    have h1 := h q List.mem_cons_self
    have h2 := sz_le (O := t) fun p hp => h p (List.mem_cons_of_mem _ hp)
    simp only [tmSz, List.length_cons]
    omega
theorem jn_len {A B : List Tm} {n : Int} : ((joinL A B n).getD []).length ≤ 8 := (jn_fine A B n).2
theorem jn_each {A B : List Tm} {n : Int} : ∀ q ∈ (joinL A B n).getD [], q.2.1.length ≤ 1048576 := fun q hq => by
  have := ok_each (jn_fine A B n).1 q hq
  omega
theorem jn_sz {A B : List Tm} {n : Int} : tmSz ((joinL A B n).getD []) ≤ 1048576 := by
  have h1 := sz_le (ok_each (jn_fine A B n).1)
  have h2 := (jn_fine A B n).2
  omega
end Tmj
end Go.Proofs.Ytdhbjjolgmodjaa
