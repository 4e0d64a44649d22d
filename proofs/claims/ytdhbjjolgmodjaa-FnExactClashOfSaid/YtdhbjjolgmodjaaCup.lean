/- The contract of the model's ClashOf, over this seat's translation: the plain function clashOfL, of own memory. Nothing that was there before a call has changed. Condition: at most 1048576 releases, needs, and spans of each. -/
import Derived.Test.YtdhbjjolgmodjaaCuj
import Derived.Test.YtdhbjjolgmodjaaCuk
import Derived.Test.YtdhbjjolgmodjaaCum
import Derived.Test.YtdhbjjolgmodjaaCuo
namespace Go.Proofs.Ytdhbjjolgmodjaa
open Go.RowKit Go.Sort

namespace Tmc
open Foot
theorem specClashOf_any (u v : Value) (S : List Rel) (M : List Nd) (K A B N : Int) (w : World) (hS : S.length ≤ 1048576) (hq : ∀ q ∈ S, q.2.2.2.length ≤ 1048576 ∧ ∀ p ∈ q.2.2.2, p.2.length ≤ 1048576) (hM : M.length ≤ 1048576) (hm : ∀ q ∈ M, q.2.length ≤ 1048576)
    (h : RlAt w w.heap.size u S) (h2 : NdAt w w.heap.size v M) : Calls Try.prog 23 #[u, v, stepV K A B N] w (TbPost (clashOfL S M K A B N) w) := by
  by_cases hok : shOk S = true ∧ ndOk M = true
  · obtain ⟨hs, hn⟩ := hok
    rw [show clashOfL S M K A B N = cofL S M K A B N from if_pos ⟨hs, hn⟩]
    by_cases k0 : K = 0
    · subst k0
      rw [show cofL S M 0 A B N = cofN M A B N from if_pos rfl]
      exact specClashOf_need u v S M A B N w hS hq hM hm hs hn h h2
    by_cases k1 : K = 1
    · subst k1
      rw [show cofL S M 1 A B N = cofR S A B N from (if_neg (by decide)).trans (if_pos rfl)]
      exact specClashOf_rel u v S M A B N w hS hq hM hm hs hn h h2
    by_cases k2 : K = 2
    · subst k2
      rw [show cofL S M 2 A B N = cofS S A B N from (if_neg (by decide)).trans ((if_neg (by decide)).trans (if_pos rfl))]
      exact specClashOf_shelf u v S M A B N w hS hq hM hm hs hn h h2
    rw [show cofL S M K A B N = none from (if_neg k0).trans ((if_neg k1).trans (if_neg k2))]
    exact specClashOf_other u v S M K A B N k0 k1 k2 w hS hq hM hm hs hn h h2
  · rw [show clashOfL S M K A B N = none from if_neg hok]
    exact specClashOf_no u v S M K A B N w hS hq hM hm hok h h2
end Tmc
end Go.Proofs.Ytdhbjjolgmodjaa
