/- The contracts of the program's RangeNot, RangeAnd and RangeOr over this seat's translation: each answers as the plain functions of the spans tell. Nothing that was there before the call has changed. Condition: at most 1048576 spans. -/
import Derived.Test.YtgnjhmmedogcoaaImand
import Derived.Test.YtgnjhmmedogcoaaGd
import Derived.Test.YtgnjhmmedogcoaaGa
namespace Go.Proofs.Ytgnjhmmedogcoaa
open Go.RowKit Go.Sort

/-- A range and whether it could be told. -/
def TPost (ok : Bool) (L : List (Int × Int)) (w : World) (e : Ending) (w' : World) : Prop :=
  ∃ v, e = .returned (.tuple #[.agg #[v], .bool ok]) ∧ SRes L w.heap.size v w' ∧ Below w.heap.size w w'

set_option maxRecDepth 100000 in
theorem res_nil (B : Nat) (w : World) : SRes [] B (.slice none 0 0) w := ⟨none, 0, rfl, .inl rfl⟩

def fitOk (L : Sps) : Bool := decide (L.length ≤ 40)
def fitR (L : Sps) : Sps := if L.length ≤ 40 then L else []
def notOk (A : Sps) : Bool := spOk A && fitOk (notL A)
def notR (A : Sps) : Sps := if spOk A then fitR (notL A) else []
def andOk (A B : Sps) : Bool := (spOk A && spOk B) && fitOk (andI A B)
def andR (A B : Sps) : Sps := if spOk A && spOk B then fitR (andI A B) else []
def orOk (A B : Sps) : Bool := (spOk A && spOk B) && fitOk (orI A B)
def orR (A B : Sps) : Sps := if spOk A && spOk B then fitR (orI A B) else []

set_option maxRecDepth 100000 in
theorem andI_len (n : Nat) : ∀ {A B : Sps}, A.length + B.length ≤ n → (andI A B).length ≤ n := by
  induction n with
  | zero =>
    intro A B h
    obtain rfl : A = [] := List.eq_nil_of_length_eq_zero (by omega)
    rw [andI]; simp
  | succ n ih =>
    intro A B h
    match A, B, h with
    | [], _, _ => rw [andI]; simp
    | _ :: _, [], _ => rw [andI]; simp
    | (a, b) :: s, (c, d) :: t, h =>
      simp only [List.length_cons] at h
      have r1 := ih (A := s) (B := (c, d) :: t) (by simp only [List.length_cons]; omega)
      have r2 := ih (A := (a, b) :: s) (B := t) (by simp only [List.length_cons]; omega)
      rw [andI, List.length_append]
      have f : (if max a c ≤ min b d then [(max a c, min b d)] else []).length ≤ 1 := by split <;> simp
      have f2 : (if b < d then andI s ((c, d) :: t) else andI ((a, b) :: s) t).length ≤ n := by
        split
        · exact r1
        · exact r2
      omega

set_option maxRecDepth 100000 in
theorem fit_res {L : Sps} {B : Nat} {v : Value} {w : World} (h : SRes L B v w) : SRes (fitR L) B (if L.length ≤ 40 then v else .slice none 0 0) w := by
  unfold fitR
  split
  · exact h
  · exact res_nil _ _

end Go.Proofs.Ytgnjhmmedogcoaa
