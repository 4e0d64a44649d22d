/- Worlds of targets, as plain facts: when targets are a world. No condition. -/
import Derived.Test.YtopplljilmjjgaaTg
import Derived.Test.YtopplljilmjjgaaRxp
namespace Go.Proofs.Ytopplljilmjjgaa

open Rx
namespace Wl
/-- Numbers that ascend, from one on and before another one. -/
def insOk (lo k : Int) : List Int → Bool
  | [] => true
  | x :: t => decide (lo ≤ x ∧ x < k) && insOk (x + 1) k t
def tOk (k : Nat) (x : Tgt) : Bool := if x.1 = true then decide (x.2.1.size = 0) && insOk 0 k x.2.2.2 && scOk x.2.2.1 x.2.2.2.length else decide (x.2.1.size ≤ 40) && decide (x.2.2.1.length = 0) && decide (x.2.2.2.length = 0)
def wFrom (k : Nat) : List Tgt → Bool
  | [] => true
  | x :: t => tOk k x && wFrom (k + 1) t
def wOk (S : List Tgt) : Bool := decide (S.length ≤ 12) && wFrom 0 S
theorem wFrom_at {S : List Tgt} {k : Nat} {x : Tgt} (h : S[k]? = some x) : wFrom k (S.drop k) = (tOk k x && wFrom (k + 1) (S.drop (k + 1))) := by
  obtain ⟨hk, rfl⟩ := List.getElem?_eq_some_iff.1 h
  rw [List.drop_eq_getElem_cons hk]
  rfl
theorem wFrom_all : ∀ (S : List Tgt) (k : Nat), wFrom k S = true ↔ ∀ i x, S[i]? = some x → tOk (k + i) x = true
  | [], k => by simp [wFrom]
  | y :: t, k => by
    rw [wFrom, Bool.and_eq_true, wFrom_all t (k + 1)]
    constructor
    · rintro ⟨h1, h2⟩ i x hx
      rcases i with _ | i
      · simp at hx
        subst hx
        exact h1
      · rw [show k + (i + 1) = k + 1 + i by omega]
        exact h2 i x (by simpa using hx)
    · intro h
      refine ⟨by simpa using h 0 y rfl, fun i x hx => ?_⟩
      rw [show k + 1 + i = k + (i + 1) by omega]
      exact h (i + 1) x (by simpa using hx)
theorem wOk_iff {S : List Tgt} : wOk S = true ↔ S.length ≤ 12 ∧ ∀ i x, S[i]? = some x → tOk i x = true := by
  simp only [wOk, Bool.and_eq_true, decide_eq_true_eq, wFrom_all]
  constructor
  · rintro ⟨h1, h2⟩
    exact ⟨h1, fun i x hx => by simpa using h2 i x hx⟩
  · rintro ⟨h1, h2⟩
    exact ⟨h1, fun i x hx => by simpa using h2 i x hx⟩
theorem wOk_len {S : List Tgt} (h : wOk S = true) : S.length ≤ 12 := (wOk_iff.1 h).1
theorem wOk_take {S : List Tgt} (h : wOk S = true) (k : Nat) : wOk (S.take k) = true := by
  obtain ⟨h1, h2⟩ := wOk_iff.1 h
  refine wOk_iff.2 ⟨by simp; omega, fun i x hx => ?_⟩
  rw [List.getElem?_take] at hx
  split at hx
  · exact h2 i x hx
  · cases hx
/-- The same of inputs, told by each number and the one before it. -/
theorem insOk_at {N : List Int} {j : Nat} {x k lo : Int} (h : N[j]? = some x) : insOk lo k (N.drop j) = (decide (lo ≤ x ∧ x < k) && insOk (x + 1) k (N.drop (j + 1))) := by
  obtain ⟨hk, rfl⟩ := List.getElem?_eq_some_iff.1 h
  rw [List.drop_eq_getElem_cons hk]
  rfl
theorem insOk_mem : ∀ {N : List Int} {lo k : Int}, insOk lo k N = true → ∀ x ∈ N, lo ≤ x ∧ x < k
  | [], _, _, _, x, h => by cases h
  | y :: t, lo, k, h, x, hx => by
    simp only [insOk, Bool.and_eq_true, decide_eq_true_eq] at h
    rcases List.mem_cons.1 hx with rfl | hx
    · exact h.1
    · have := insOk_mem h.2 x hx
      omega
theorem insOk_len : ∀ {N : List Int} {lo k : Int}, insOk lo k N = true → (N.length : Int) ≤ max 0 (k - lo)
  | [], _, _, _ => by simp; omega
  | y :: t, lo, k, h => by
    simp only [insOk, Bool.and_eq_true, decide_eq_true_eq] at h
    have := insOk_len h.2
    simp only [List.length_cons]
    omega
theorem tOk_step {k : Nat} {x : Tgt} (h : tOk k x = true) (hm : x.1 = true) : x.2.1.size = 0 ∧ insOk 0 k x.2.2.2 = true ∧ scOk x.2.2.1 x.2.2.2.length = true := by
  unfold tOk at h
  rw [if_pos hm] at h
  simp only [Bool.and_eq_true, decide_eq_true_eq] at h
  exact ⟨h.1.1, h.1.2, h.2⟩
theorem tOk_source {k : Nat} {x : Tgt} (h : tOk k x = true) (hm : x.1 = false) : x.2.1.size ≤ 40 ∧ x.2.2.1 = [] ∧ x.2.2.2 = [] := by
  unfold tOk at h
  rw [if_neg (by rw [hm]; decide)] at h
  simp only [Bool.and_eq_true, decide_eq_true_eq] at h
  exact ⟨h.1.1, List.eq_nil_of_length_eq_zero h.1.2, List.eq_nil_of_length_eq_zero h.2⟩
/-- Of a target of a world: all inputs stand before it. -/
theorem tOk_ins {k : Nat} {x : Tgt} (h : tOk k x = true) : insOk 0 k x.2.2.2 = true := by
  rcases hm : x.1
  · rw [(tOk_source h hm).2.2]
    rfl
  · exact (tOk_step h hm).2.1
theorem tOk_text {k : Nat} {x : Tgt} (h : tOk k x = true) : x.2.1.size ≤ 40 := by
  rcases hm : x.1
  · exact (tOk_source h hm).1
  · have := (tOk_step h hm).1
    omega
end Wl
end Go.Proofs.Ytopplljilmjjgaa
