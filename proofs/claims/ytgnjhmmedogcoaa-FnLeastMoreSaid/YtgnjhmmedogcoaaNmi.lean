/- Contract of the program's ShelfNames, over this seat's translation: the names that come up, as the plain function snL tells them, in a row of their own; nothing that was there before the call has changed. Condition: at most 1048576 releases, needs, needs of each release, and spans of those. -/
import Derived.Test.YtgnjhmmedogcoaaNup
import Derived.Test.YtgnjhmmedogcoaaGd
namespace Go.Proofs.Ytgnjhmmedogcoaa
open Go.RowKit Go.Sort

namespace Nup
/-- The names below a number that a row of needs has. -/
def nmTo (U : List Nd) : Nat → List Int
  | 0 => []
  | k + 1 => nmTo U k ++ (if hasName (k : Int) U = true then [(k : Int)] else [])
theorem nmTo_len (U : List Nd) : ∀ k, (nmTo U k).length ≤ k
  | 0 => Nat.le_refl _
  | k + 1 => by
    have := nmTo_len U k
    unfold nmTo
    split <;> simp <;> omega
def snL (S : List Rel) (N : List Nd) : List Int := if (shOk S && ndOk N) = true then nmTo (upL S N) 8 else []
theorem snL_len (S : List Rel) (N : List Nd) : (snL S N).length ≤ 8 := by
  unfold snL
  split
  · exact nmTo_len _ _
  · simp
theorem sh_all : ∀ (S : List Rel) (p : Option Rel), shFrom p S = true → ∀ q ∈ S, relOk q = true
  | [], _, _, q, h => by simp at h
  | y :: t, p, hs, q, h => by
    unfold shFrom at hs
    rw [Bool.and_eq_true, Bool.and_eq_true] at hs
    rcases List.mem_cons.1 h with rfl | h
    · exact hs.1
    · exact sh_all t _ hs.2.2 q h
theorem nd_len {M : List Nd} (h : ndOk M = true) : M.length ≤ 5 := by
  unfold ndOk at h
  rw [Bool.and_eq_true, decide_eq_true_eq] at h
  exact h.2
theorem sh_len {S : List Rel} (h : shOk S = true) : S.length ≤ 30 := by
  unfold shOk at h
  rw [Bool.and_eq_true, decide_eq_true_eq] at h
  exact h.2
theorem sh_needs {S : List Rel} (h : shOk S = true) : ∀ q ∈ S, ndOk q.2.2.2 = true := fun q hq => by
  unfold shOk at h
  rw [Bool.and_eq_true] at h
  have := sh_all S none h.1 q hq
  unfold relOk at this
  simp only [Bool.and_eq_true] at this
  exact this.2.2.1
theorem upL_len {S : List Rel} {N : List Nd} (hS : shOk S = true) (hN : ndOk N = true) : (upL S N).length ≤ 155 := by
  have h1 := sh_len hS
  have h2 := nd_len hN
  have h5 : ∀ q ∈ S, q.2.2.2.length ≤ 5 := fun q hq => nd_len (sh_needs hS q hq)
  have key : ∀ (f i : Nat) (st : St), Ok S N st → (run S f i st).length ≤ 155 := by
    intro f
    induction f with
    | zero => exact fun i st h => h.le h1 h2
    | succ f ih =>
      intro i st h
      rcases hn : st.2[i]? with _ | n
      · show (match st.2[i]? with | none => st.2 | some n => run S f (i + 1) (pass n 0 S st)).length ≤ 155
        rw [hn]
        exact h.le h1 h2
      · rw [run_step hn]
        refine ih _ _ ?_
        have pk : ∀ (m : Nat) (j : Nat) (s : St), S.length - j = m → Ok S N s → Ok S N (pass n j (S.drop j) s) := by
          intro m
          induction m with
          | zero =>
            intro j s hm hs
            rw [List.drop_of_length_le (by omega)]
            exact hs
          | succ m ih2 =>
            intro j s hm hs
            have hj : j < S.length := by omega
            rw [pass_step (List.getElem?_eq_getElem hj)]
            exact ih2 (j + 1) _ (by omega) (hs.hit n (List.getElem?_eq_getElem hj))
        have := pk S.length 0 st (by omega) h
        simpa using this
  exact key 200 0 _ (Ok.start h5)

end Nup
end Go.Proofs.Ytgnjhmmedogcoaa
