/- The model's search for the best choice, as plain facts: a need of a lower name that is not met is met by nothing that picks are made up to; the ways to decide a name are its open picks, the newest one first. No condition. -/
import Derived.Test.YtgenjbeamlffmaaSvg
namespace Go.Proofs.Ytgenjbeamlffmaa
open Go.RowKit Go.Sort

namespace Svp
open Foot Copy Nup Cpu Cfa Rch Gof Pof
/-- Whether picks conflict with needs of names below one. -/
def confB (S : List Rel) (N : List Nd) (c : List Pk) (z : Int) : Bool := N.any (fun n => decide (n.1 < z) && !metP c n) || c.any fun x => (ndsOf S x).any fun n => decide (n.1 < z) && !metP c n
/-- What is open of names from one on. -/
def partL (O : List Pk) (z : Int) : List Pk := O.filter fun p => decide (z ≤ p.1)
def optL (O : List Pk) (z : Int) : List Pk := O.filter fun p => decide (p.1 = z)
theorem low_met {c d O : List Pk} {z : Int} {n : Nd} (hc : pkOk c = true) (hsub : ∀ x ∈ d, x ∈ c ++ O) (hO : ∀ y ∈ O, z ≤ y.1) (hn : n.1 < z) (h : metP d n = true) : metP c n = true := by
  obtain ⟨v, hv, hh⟩ := met_mem h
  rcases List.mem_append.1 (hsub _ hv) with k | k
  · exact met_of (lo := 0) hc k hh
  · have := hO _ k
    simp only at this
    omega
theorem conf_none {S : List Rel} {N : List Nd} {H c O : List Pk} {z : Int} (hS : shOk S = true) (hG : Good S H c O) (hO : ∀ y ∈ O, z ≤ y.1) (hh : confB S N c z = true) : bestL S N H c O = [] := by
  unfold bestL
  rw [List.filter_eq_nil_iff]
  intro d hd h0
  have h0' : faultF S N H d = 0 := by simpa using h0
  obtain ⟨h1, h2, h3⟩ := comps_mem hS _ c O hG d hd
  have F := Fine.of (.inr h0')
  unfold confB at hh
  rw [Bool.or_eq_true] at hh
  rcases hh with hh | hh
  · obtain ⟨n, hn, he⟩ := List.any_eq_true.1 hh
    rw [Bool.and_eq_true, decide_eq_true_eq] at he
    have := low_met hG.pk h2 hO he.1 (F.met n hn)
    rw [this] at he
    exact absurd he.2 (by decide)
  · obtain ⟨x, hx, hh⟩ := List.any_eq_true.1 hh
    obtain ⟨n, hn, he⟩ := List.any_eq_true.1 hh
    rw [Bool.and_eq_true, decide_eq_true_eq] at he
    have := low_met hG.pk h2 hO he.1 (F.inner x (h1 x hx) n hn)
    rw [this] at he
    exact absurd he.2 (by decide)
theorem part_split : ∀ {O : List Pk} (z : Int), (O.Pairwise fun x y => x.1 ≤ y.1) → partL O z = optL O z ++ partL O (z + 1)
  | [], _, _ => rfl
  | q :: t, z, h => by
    have ih := part_split z (List.pairwise_cons.1 h).2
    have hq := (List.pairwise_cons.1 h).1
    unfold partL optL at ih ⊢
    by_cases h1 : q.1 < z
    · rw [List.filter_cons_of_neg (by simp; omega), List.filter_cons_of_neg (by simp; omega), List.filter_cons_of_neg (by simp; omega), ih]
    · by_cases h2 : q.1 = z
      · rw [List.filter_cons_of_pos (by simp; omega), List.filter_cons_of_pos (by simpa using h2), List.filter_cons_of_neg (by simp; omega), ih]
        rfl
      · have hn : t.filter (fun p => decide (p.1 = z)) = [] := by
          rw [List.filter_eq_nil_iff]
          intro y hy
          have := hq y hy
          simp
          omega
        rw [List.filter_cons_of_pos (by simp; omega), List.filter_cons_of_neg (by simpa using h2), List.filter_cons_of_pos (by simp; omega), ih, hn]
        rfl
/-- What comes of picks where a name is to be decided: without it, and then by its versions, the newest one first. -/
theorem best_name {S : List Rel} {N : List Nd} {H c O : List Pk} (z : Int) (hm : O.Pairwise fun x y => x.1 ≤ y.1) : bestL S N H c (partL O z) = bestL S N H c (partL O (z + 1)) ++ ((optL O z).reverse).flatMap fun q => bestL S N H (c ++ [q]) (partL O (z + 1)) := by
  have hs := part_split z hm
  have hA : ∀ q ∈ optL O z, q.1 = z := fun q hq => by simpa using (List.mem_filter.1 hq).2
  have hB : ∀ q ∈ partL O (z + 1), ¬ q.1 = z := fun q hq => by
    have := (List.mem_filter.1 hq).2
    simp at this
    omega
  rcases hp : optL O z with _ | ⟨p, t⟩
  · rw [hp] at hs
    rw [hs]
    simp
  · have hpz : p.1 = z := hA p (by rw [hp]; exact List.mem_cons_self)
    rw [hp] at hA hs
    have hc : partL O z = p :: (t ++ partL O (z + 1)) := hs
    have hf : firstN (p :: (t ++ partL O (z + 1))) = (p :: t).length := by
      show ((p :: (t ++ partL O (z + 1))).takeWhile (fun q => decide (q.1 = p.1))).length = _
      rw [← List.cons_append, List.takeWhile_append_of_pos (fun q hq => by simpa using (hA q hq).trans hpz.symm)]
      have hb : (partL O (z + 1)).takeWhile (fun q => decide (q.1 = p.1)) = [] := by
        rcases hx : partL O (z + 1) with _ | ⟨y, r⟩
        · rfl
        · rw [List.takeWhile_cons_of_neg]
          have := hB y (by rw [hx]; exact List.mem_cons_self)
          rw [← hpz] at this
          simpa using this
      rw [hb, List.append_nil]
    have ht : (p :: (t ++ partL O (z + 1))).take (p :: t).length = p :: t := by rw [← List.cons_append]; simp
    have hd : (p :: (t ++ partL O (z + 1))).drop (p :: t).length = partL O (z + 1) := by rw [← List.cons_append]; simp
    rw [hc, best_step, hf, ht, hd]
/-- Behind the last name nothing is open. -/
theorem part_none {S : List Rel} {H : List Pk} (hS : shOk S = true) : partL (openL S H) 8 = [] := by
  unfold partL
  rw [List.filter_eq_nil_iff]
  intro y hy
  have := (open_ok hS hy).1
  simp
  omega
theorem part_all {S : List Rel} {H : List Pk} (hS : shOk S = true) : partL (openL S H) 0 = openL S H := by
  unfold partL
  rw [List.filter_eq_self]
  intro y hy
  have := (open_ok hS hy).1
  simp
  omega
theorem best_last (S : List Rel) (N : List Nd) (H c : List Pk) : bestL S N H c [] = if faultF S N H c = 0 then [c] else [] := by
  unfold bestL
  show (([c] : List (List Pk)).filter fun d => decide (faultF S N H d = 0)) = _
  by_cases h : faultF S N H c = 0
  · rw [if_pos h, List.filter_cons_of_pos (by simpa using h)]
    rfl
  · rw [if_neg h, List.filter_cons_of_neg (by simpa using h)]
    rfl
/-- The first one of rows laid one behind the other. -/
theorem head_two {α : Type} (A B : List α) : (A ++ B).head? = (A.head?).or B.head? := by
  cases A with
  | nil => simp
  | cons a t => rfl
end Svp
end Go.Proofs.Ytgenjbeamlffmaa
