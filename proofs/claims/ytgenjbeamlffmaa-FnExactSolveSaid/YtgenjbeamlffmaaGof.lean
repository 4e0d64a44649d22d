/- A shelf on which one release is withdrawn, as plain facts: it is as fine as before, each place is found as before, and the withdrawn version fits nothing. No condition. -/
import Derived.Test.YtgenjbeamlffmaaGh
import Derived.Test.YtgenjbeamlffmaaRfit
import Derived.Test.YtgenjbeamlffmaaSpone
import Derived.Test.YtgenjbeamlffmaaNmi
namespace Go.Proofs.Ytgenjbeamlffmaa
open Go.RowKit Go.Sort

namespace Gof
open Copy Nup
/-- A release without its flag. -/
def er (q : Rel) : Int × (Int × Int × Int × Int) × List Nd := (q.1, q.2.1, q.2.2.2)
theorem relOk_er {p q : Rel} (h : er p = er q) : relOk p = relOk q := by
  obtain ⟨x, v, f, M⟩ := p
  obtain ⟨x', v', f', M'⟩ := q
  simp only [er, Prod.mk.injEq] at h
  obtain ⟨rfl, rfl, rfl⟩ := h
  rfl
theorem relLess_er {p q p' q' : Rel} (h : er p = er p') (h' : er q = er q') : relLess p q = relLess p' q' := by
  obtain ⟨x, v, f, M⟩ := p
  obtain ⟨x', v', f', M'⟩ := q
  obtain ⟨y, u, g, N⟩ := p'
  obtain ⟨y', u', g', N'⟩ := q'
  simp only [er, Prod.mk.injEq] at h h'
  obtain ⟨rfl, rfl, rfl⟩ := h
  obtain ⟨rfl, rfl, rfl⟩ := h'
  rfl
theorem shFrom_er : ∀ (S T : List Rel) (p p' : Option Rel), S.map er = T.map er → p.map er = p'.map er → shFrom p S = shFrom p' T
  | [], [], _, _, _, _ => rfl
  | [], _ :: _, _, _, h, _ => by simp at h
  | _ :: _, [], _, _, h, _ => by simp at h
  | x :: S, y :: T, p, p', h, hp => by
    simp only [List.map_cons, List.cons.injEq] at h
    have ih := shFrom_er S T (some x) (some y) h.2 (by simp [h.1])
    unfold shFrom
    rw [ih, relOk_er h.1]
    rcases p with _ | p
    · rcases p' with _ | p'
      · rfl
      · simp at hp
    · rcases p' with _ | p'
      · simp at hp
      · simp only [Option.map_some, Option.some.injEq] at hp
        show (relOk y && (relLess p x && _)) = (relOk y && (relLess p' y && _))
        rw [relLess_er hp h.1]
theorem shOk_er {S T : List Rel} (h : S.map er = T.map er) : shOk S = shOk T := by
  unfold shOk
  rw [shFrom_er S T none none h rfl]
  have := congrArg List.length h
  simp only [List.length_map] at this
  rw [this]
theorem shFind_er (n : Int) (v : Int × Int × Int × Int) : ∀ (S T : List Rel) (k : Nat), S.map er = T.map er → shFind n v k S = shFind n v k T
  | [], [], _, _ => rfl
  | [], _ :: _, _, h => by simp at h
  | _ :: _, [], _, h => by simp at h
  | x :: S, y :: T, k, h => by
    simp only [List.map_cons, List.cons.injEq] at h
    have ih := shFind_er n v S T (k + 1) h.2
    have e1 : x.1 = y.1 := congrArg (fun z => z.1) h.1
    have e2 : x.2.1 = y.2.1 := congrArg (fun z => z.2.1) h.1
    unfold shFind
    rw [ih, e1, e2]
theorem gone_er {S : List Rel} {j : Nat} (hj : j < S.length) : (goneL S j).map er = S.map er := by
  unfold goneL
  rw [List.getElem?_eq_getElem hj]
  apply List.ext_getElem?
  intro i
  simp only [List.getElem?_map, List.getElem?_set]
  by_cases h : j = i
  · subst h
    rw [if_pos rfl, if_pos hj, List.getElem?_eq_getElem hj]
    rfl
  · rw [if_neg h]
/-- The order of releases by one number. -/
def key (q : Rel) : Int := q.1 * 20000000 + rk q.2.1.1 q.2.1.2.1 q.2.1.2.2.1 q.2.1.2.2.2
theorem rk_few {a b c d : Int} (h : vOk a b c d = true) : 0 ≤ rk a b c d ∧ rk a b c d ≤ 9999999 := by
  have := vOk_iff.1 h
  unfold rk
  omega
theorem ok_ver {q : Rel} (h : relOk q = true) : vOk q.2.1.1 q.2.1.2.1 q.2.1.2.2.1 q.2.1.2.2.2 = true := by
  unfold relOk at h
  simp only [Bool.and_eq_true] at h
  exact h.2.1
theorem less_key {p q : Rel} (hp : relOk p = true) (hq : relOk q = true) (h : relLess p q = true) : key p < key q := by
  have h1 := rk_few (ok_ver hp)
  have h2 := rk_few (ok_ver hq)
  unfold relLess at h
  unfold key
  split at h
  · rename_i e
    unfold vLess at h
    simp only [Bool.and_eq_true, decide_eq_true_eq] at h
    have h3 := h.2.2
    unfold vRank at h3
    rw [if_pos (ok_ver hp), if_pos (ok_ver hq)] at h3
    rw [e]
    omega
  · have h3 := of_decide_eq_true h
    omega
theorem after_key : ∀ (S : List Rel) (p : Rel), relOk p = true → shFrom (some p) S = true → ∀ q ∈ S, key p < key q
  | [], _, _, _, q, hq => by simp at hq
  | x :: S, p, hp, h, q, hq => by
    unfold shFrom at h
    simp only [Bool.and_eq_true] at h
    have h1 := less_key hp h.1 h.2.1
    rcases List.mem_cons.1 hq with rfl | hq
    · exact h1
    · have := after_key S x h.1 h.2.2 q hq
      omega
theorem keys_differ : ∀ (S : List Rel) (p : Option Rel), shFrom p S = true → ∀ i j (hi : i < S.length) (hj : j < S.length), key S[i] = key S[j] → i = j
  | [], _, _, i, _, hi, _, _ => by simp at hi
  | x :: S, p, h, i, j, hi, hj, e => by
    unfold shFrom at h
    simp only [Bool.and_eq_true] at h
    have ha := after_key S x h.1 h.2.2
    rcases i with _ | i
    · rcases j with _ | j
      · rfl
      · have := ha (S[j]'(by simpa using hj)) (List.getElem_mem _)
        simp only [List.getElem_cons_zero, List.getElem_cons_succ] at e
        omega
    · rcases j with _ | j
      · have := ha (S[i]'(by simpa using hi)) (List.getElem_mem _)
        simp only [List.getElem_cons_zero, List.getElem_cons_succ] at e
        omega
      · have := keys_differ S (some x) h.2.2 i j (by simpa using hi) (by simpa using hj) (by simpa using e)
        omega
theorem one_rank {a b c d a' b' c' d' : Int} (h : hasL (oneL a b c d) a' b' c' d' = true) : vOk a b c d = true ∧ rk a' b' c' d' = rk a b c d := by
  unfold hasL at h
  simp only [Bool.and_eq_true] at h
  have h1 := h.2.2
  unfold oneL at h1
  split at h1
  · rename_i hv
    simp only [inL, List.any_cons, List.any_nil, Bool.or_false] at h1
    have := inB_iff.1 h1
    exact ⟨hv, by omega⟩
  · simp [inL] at h1
theorem fit_nil {n : Int} {L : Sps} : ∀ (S : List Rel) (k : Nat), (∀ q ∈ S, fitB n L q = false) → fitFrom n L k S = []
  | [], _, _ => rfl
  | x :: S, k, h => by
    unfold fitFrom
    rw [if_neg (by rw [h x (List.mem_cons_self ..)]; decide), fit_nil S (k + 1) fun q hq => h q (List.mem_cons_of_mem _ hq)]
    rfl
/-- What the law asks of a shelf on which the release of a name and a version is withdrawn. -/
theorem gone_law {S : List Rel} {n a b c d : Int} {j : Nat} (hj : j < S.length) (h : shAt S n (a, b, c, d) = (j : Int)) :
    shOk (goneL S j) = true ∧ shAt (goneL S j) n (a, b, c, d) = (j : Int) ∧ shFits (goneL S j) n (oneL a b c d) = [] := by
  have hS : shOk S = true := by
    rw [← Bool.not_eq_false]
    intro hf
    unfold shAt at h
    rw [hf, if_neg (by decide)] at h
    omega
  have he := gone_er hj
  have hG : shOk (goneL S j) = true := by rw [shOk_er he, hS]
  have hf : shFind n (a, b, c, d) 0 S = (j : Int) := by
    unfold shAt at h
    rwa [if_pos hS] at h
  refine ⟨hG, by unfold shAt; rw [if_pos hG, shFind_er n _ _ _ 0 he, hf], ?_⟩
  have hat : ∀ (S : List Rel) (k : Nat) (j : Nat), shFind n (a, b, c, d) k S = (j : Int) → ∃ i, ∃ h : i < S.length, j = k + i ∧ S[i].1 = n ∧ S[i].2.1 = (a, b, c, d) := by
    intro S
    induction S with
    | nil => intro k j h; unfold shFind at h; omega
    | cons x S ih =>
      intro k j h
      unfold shFind at h
      split at h
      · rename_i e
        exact ⟨0, by simp, by omega, e.1, e.2⟩
      · obtain ⟨i, hi, e, h1, h2⟩ := ih (k + 1) j h
        exact ⟨i + 1, by simpa using hi, by omega, by simpa using h1, by simpa using h2⟩
  obtain ⟨i0, hi0, e0, hn, hv⟩ := hat S 0 j hf
  obtain rfl : j = i0 := by omega
  unfold shFits
  split
  · refine fit_nil _ _ fun q hq => ?_
    obtain ⟨i, hi, rfl⟩ := List.getElem_of_mem hq
    by_cases hij : j = i
    · subst hij
      have e : (goneL S j)[j] = (S[j].1, S[j].2.1, true, S[j].2.2.2) := by
        have h1 : (goneL S j)[j]? = some (S[j].1, S[j].2.1, true, S[j].2.2.2) := by
          unfold goneL
          rw [List.getElem?_eq_getElem hj]
          exact List.getElem?_set_self hj
        exact (List.getElem?_eq_some_iff.1 h1).2
      rw [e]
      simp [fitB]
    · have hlen : (goneL S j).length = S.length := by
        have := congrArg List.length he
        simpa using this
      have hiS : i < S.length := by omega
      have e : (goneL S j)[i] = S[i] := by
        have h1 : (goneL S j)[i]? = some S[i] := by
          unfold goneL
          rw [List.getElem?_eq_getElem hj]
          exact (List.getElem?_set_ne hij).trans (List.getElem?_eq_getElem hiS)
        exact (List.getElem?_eq_some_iff.1 h1).2
      rw [e, ← Bool.not_eq_true]
      intro hf'
      unfold fitB at hf'
      simp only [Bool.and_eq_true, decide_eq_true_eq] at hf'
      obtain ⟨_, hr⟩ := one_rank hf'.2.2
      have hk : key S[i] = key S[j] := by
        unfold key
        rw [hf'.1, hn, hr, hv]
      have h1 := hS
      unfold shOk at h1
      rw [Bool.and_eq_true] at h1
      exact hij (keys_differ S none h1.1 i j hiS hj hk).symm
  · rfl
end Gof
end Go.Proofs.Ytgenjbeamlffmaa
