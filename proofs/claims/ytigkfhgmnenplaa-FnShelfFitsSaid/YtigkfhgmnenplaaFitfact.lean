/- Plain facts of what fits a need: of the releases of a name that are not withdrawn each fits a range or the range turned, never both. No statement of the program is in it. -/
import Derived.Test.YtigkfhgmnenplaaRlaw
import Derived.Test.YtigkfhgmnenplaaRfit
namespace Go.Proofs.Ytigkfhgmnenplaa

namespace Fif
theorem rk_range {a b c d : Int} (h : vOk a b c d = true) : 0 ≤ rk a b c d ∧ rk a b c d ≤ 9999999 := by
  have := vOk_iff.1 h
  unfold rk
  omega
theorem has_not {L : Sps} (h : notOk L = true) {a b c d : Int} (hv : vOk a b c d = true) : hasL (notR L) a b c d = !hasL L a b c d := by
  have e := notR_eq h
  have s := (not_facts h).1
  obtain ⟨h1, h2, h3⟩ := notOk_iff.1 h
  have r := rk_range hv
  unfold hasL
  rw [s, hv, spOk_iff.2 ⟨h1, h2⟩, e]
  simp only [Bool.true_and]
  have k : inL (rk a b c d) (notL L) = true ↔ ¬ inL (rk a b c d) L = true := by
    rw [inL_mem, inL_mem, notL_mem h1]
    exact ⟨fun x => x.2.2, fun x => ⟨r.1, r.2, x⟩⟩
  rcases h4 : inL (rk a b c d) (notL L)
  · rcases h5 : inL (rk a b c d) L
    · have := k.2 (by rw [h5]; simp)
      rw [h4] at this
      cases this
    · rfl
  · have := k.1 h4
    rcases h5 : inL (rk a b c d) L
    · rfl
    · exact absurd h5 this
theorem has_all {a b c d : Int} (hv : vOk a b c d = true) : hasL [(0, 9999999)] a b c d = true := by
  have r := rk_range hv
  have s : spOk [(0, 9999999)] = true := by decide
  unfold hasL
  rw [s, hv]
  simp only [Bool.true_and]
  rw [inL_mem]
  exact ⟨(0, 9999999), by simp, r.1, r.2⟩
theorem fit_low (n : Int) (L : Sps) : ∀ (S : List Rel) (k : Nat), ∀ x ∈ fitFrom n L k S, (k : Int) ≤ x
  | [], k, x, h => by simp [fitFrom] at h
  | q :: t, k, x, h => by
    unfold fitFrom at h
    rcases List.mem_append.1 h with h | h
    · split at h
      · simp at h; omega
      · simp at h
    · have := fit_low n L t (k + 1) x h
      omega
theorem fit_split (n : Int) {L : Sps} (h : notOk L = true) : ∀ (S : List Rel) (k : Nat), (∀ q ∈ S, vOk q.2.1.1 q.2.1.2.1 q.2.1.2.2.1 q.2.1.2.2.2 = true) →
    (fitFrom n [(0, 9999999)] k S).length = (fitFrom n L k S).length + (fitFrom n (notR L) k S).length ∧ (∀ x ∈ fitFrom n [(0, 9999999)] k S, decide (x ∈ fitFrom n L k S) = !decide (x ∈ fitFrom n (notR L) k S))
  | [], k, _ => ⟨rfl, fun x hx => by simp [fitFrom] at hx⟩
  | q :: t, k, hv => by
    obtain ⟨i1, i2⟩ := fit_split n h t (k + 1) fun q hq => hv q (List.mem_cons_of_mem _ hq)
    have v := hv q (by simp)
    have lo1 := fit_low n L t (k + 1)
    have lo2 := fit_low n (notR L) t (k + 1)
    have lo3 := fit_low n [(0, 9999999)] t (k + 1)
    unfold fitFrom fitB
    rw [has_not h v, has_all v]
    by_cases e : q.1 = n ∧ q.2.2.1 = false
    · rw [decide_eq_true e.1, e.2]
      simp only [Bool.true_and, Bool.not_false, ite_true]
      rcases hb : hasL L q.2.1.1 q.2.1.2.1 q.2.1.2.2.1 q.2.1.2.2.2
      · simp only [Bool.not_false, ite_true, Bool.false_eq_true, ite_false, List.nil_append, List.length_append, List.length_singleton]
        refine ⟨by omega, fun x hx => ?_⟩
        rcases List.mem_append.1 hx with hx | hx
        · obtain rfl : x = (k : Int) := by simpa using hx
          rw [decide_eq_false (fun m => by have := lo1 _ m; omega), decide_eq_true (List.mem_append.2 (.inl (by simp)))]
          rfl
        · have k1 := lo3 x hx
          rw [i2 x hx]
          congr 1
          exact decide_eq_decide.2 ⟨fun m => List.mem_append.2 (.inr m), fun m => by
            rcases List.mem_append.1 m with m | m
            · simp at m; omega
            · exact m⟩
      · simp only [Bool.not_true, ite_true, Bool.false_eq_true, ite_false, List.nil_append, List.length_append, List.length_singleton]
        refine ⟨by omega, fun x hx => ?_⟩
        rcases List.mem_append.1 hx with hx | hx
        · obtain rfl : x = (k : Int) := by simpa using hx
          rw [decide_eq_true (List.mem_append.2 (.inl (by simp))), decide_eq_false (fun m => by have := lo2 _ m; omega)]
          rfl
        · have k1 := lo3 x hx
          rw [← i2 x hx]
          exact decide_eq_decide.2 ⟨fun m => by
            rcases List.mem_append.1 m with m | m
            · simp at m; omega
            · exact m, fun m => List.mem_append.2 (.inr m)⟩
    · have f : (decide (q.1 = n) && !q.2.2.1) = false := by
        rw [← Bool.not_eq_true]
        intro x
        simp only [Bool.and_eq_true, decide_eq_true_eq, Bool.not_eq_true'] at x
        exact e x
      have f' : ∀ b, (decide (q.1 = n) && (!q.2.2.1 && b)) = false := fun b => by rw [← Bool.and_assoc, f]; rfl
      rw [f', f', f']
      simp only [Bool.false_eq_true, ite_false, List.nil_append]
      exact ⟨i1, i2⟩
theorem ver_all : ∀ {S : List Rel} {p : Option Rel}, shFrom p S = true → ∀ q ∈ S, vOk q.2.1.1 q.2.1.2.1 q.2.1.2.2.1 q.2.1.2.2.2 = true
  | [], _, _, q, hq => by simp at hq
  | x :: t, p, h, q, hq => by
    unfold shFrom at h
    simp only [Bool.and_eq_true] at h
    rcases List.mem_cons.1 hq with rfl | hq
    · have := h.1
      unfold relOk at this
      simp only [Bool.and_eq_true] at this
      exact this.2.1
    · exact ver_all h.2.2 q hq
/-- The laws' facts. -/
theorem fits_law {S : List Rel} {n : Int} {L : Sps} (hn : notOk L = true) (hS : shOk S = true) (hN : ndOk [(n, L)] = true) :
    (shFits S n [(0, 9999999)]).length = (shFits S n L).length + (shFits S n (notR L)).length ∧ (∀ x ∈ shFits S n [(0, 9999999)], decide (x ∈ shFits S n L) = !decide (x ∈ shFits S n (notR L))) := by
  have hN' := hN
  unfold ndOk ndFrom ndFrom at hN'
  simp only [Bool.and_eq_true, decide_eq_true_eq] at hN'
  have s := (not_facts hn).1
  have n1 : ndOk [(n, notR L)] = true := by
    unfold ndOk ndFrom ndFrom
    simp only [Bool.and_eq_true, decide_eq_true_eq]
    exact ⟨⟨hN'.1.1, s, trivial⟩, by simp⟩
  have n2 : ndOk [(n, [(0, 9999999)])] = true := by
    unfold ndOk ndFrom ndFrom
    simp only [Bool.and_eq_true, decide_eq_true_eq]
    exact ⟨⟨hN'.1.1, by decide, trivial⟩, by simp⟩
  have hS' := hS
  unfold shOk at hS'
  rw [Bool.and_eq_true] at hS'
  unfold shFits
  rw [hS, hN, n1, n2]
  exact fit_split n hn S 0 (ver_all hS'.1)
/-- Where the range can't be turned nothing fits: it is no range. -/
theorem fits_none {S : List Rel} {n : Int} {L : Sps} (hL : L.length ≤ 3) (hn : notOk L = false) : shFits S n L = [] := by
  unfold shFits
  rw [if_neg]
  intro x
  rw [Bool.and_eq_true] at x
  have y := x.2
  unfold ndOk ndFrom at y
  simp only [Bool.and_eq_true] at y
  have : notOk L = true := by
    unfold notOk
    rw [y.1.2.1, Bool.true_and, fitOk_iff]
    have : (notL L).length ≤ L.length + 1 := notFrom_len
    omega
  rw [hn] at this
  cases this
end Fif
end Go.Proofs.Ytigkfhgmnenplaa
