/- Plain facts of picks in ascending rows: each pick is found by its name; two rows in which each name has the same version are one; of two rows one is better, or they are one, and never both. No statement of the program is in it. -/
import Derived.Test.YtjnmkkcdcacakaaPkbet
namespace Go.Proofs.Ytjnmkkcdcacakaa

namespace Pkf
theorem from_low : ∀ {M : List Pk} {lo : Int}, pkFrom lo M = true → ∀ q ∈ M, lo ≤ q.1
  | [], _, _, q, hq => by simp at hq
  | x :: t, lo, h, q, hq => by
    simp only [pkFrom, Bool.and_eq_true, decide_eq_true_eq] at h
    rcases List.mem_cons.1 hq with rfl | hq
    · exact h.1.1
    · have := from_low h.2.2 q hq
      omega
theorem from_top : ∀ {M : List Pk} {lo : Int}, pkFrom lo M = true → ∀ q ∈ M, q.1 ≤ 7 ∧ vOk q.2.1 q.2.2.1 q.2.2.2.1 q.2.2.2.2 = true
  | [], _, _, q, hq => by simp at hq
  | x :: t, lo, h, q, hq => by
    simp only [pkFrom, Bool.and_eq_true, decide_eq_true_eq] at h
    rcases List.mem_cons.1 hq with rfl | hq
    · exact ⟨h.1.2, h.2.1⟩
    · exact from_top h.2.2 q hq
theorem get_none : ∀ {M : List Pk} {lo n : Int}, pkFrom lo M = true → n < lo → pkGet n M = none
  | [], _, _, _, _ => rfl
  | x :: t, lo, n, h, hn => by
    simp only [pkFrom, Bool.and_eq_true, decide_eq_true_eq] at h
    unfold pkGet
    rw [if_neg (by omega)]
    exact get_none h.2.2 (by omega)
theorem get_mem : ∀ {M : List Pk} {n : Int} {v : V4}, pkGet n M = some v → (n, v) ∈ M
  | [], _, _, h => by simp [pkGet] at h
  | x :: t, n, v, h => by
    unfold pkGet at h
    split at h
    · rename_i e
      cases h
      rw [← e]
      simp
    · exact List.mem_cons_of_mem _ (get_mem h)
theorem get_here : ∀ {M : List Pk} {lo : Int} (_ : pkFrom lo M = true) {k : Nat} {q : Pk} (_ : M[k]? = some q), pkGet q.1 M = some q.2
  | [], _, _, k, q, hk => by simp at hk
  | x :: t, lo, h, 0, q, hk => by
    obtain rfl : x = q := by simpa using hk
    unfold pkGet
    rw [if_pos rfl]
  | x :: t, lo, h, k + 1, q, hk => by
    simp only [pkFrom, Bool.and_eq_true, decide_eq_true_eq] at h
    have hk' : t[k]? = some q := by simpa using hk
    have hlow := from_low h.2.2 q (List.mem_of_getElem? hk')
    unfold pkGet
    rw [if_neg (by omega)]
    exact get_here h.2.2 hk'
theorem same_rows : ∀ {A B : List Pk} {lo : Int}, pkFrom lo A = true → pkFrom lo B = true → (∀ m, lo ≤ m → m ≤ 7 → pkGet m A = pkGet m B) → A = B
  | [], [], _, _, _, _ => rfl
  | [], y :: t, lo, _, hB, h => by
    simp only [pkFrom, Bool.and_eq_true, decide_eq_true_eq] at hB
    have := h y.1 hB.1.1 hB.1.2
    simp [pkGet] at this
  | x :: s, [], lo, hA, _, h => by
    simp only [pkFrom, Bool.and_eq_true, decide_eq_true_eq] at hA
    have := h x.1 hA.1.1 hA.1.2
    simp [pkGet] at this
  | x :: s, y :: t, lo, hA, hB, h => by
    have hA' := hA
    have hB' := hB
    simp only [pkFrom, Bool.and_eq_true, decide_eq_true_eq] at hA hB
    have hx := h x.1 hA.1.1 hA.1.2
    have hy := h y.1 hB.1.1 hB.1.2
    unfold pkGet at hx hy
    rw [if_pos rfl] at hx hy
    have e1 : y.1 = x.1 := by
      by_cases e : y.1 = x.1
      · exact e
      rw [if_neg e] at hx
      rw [if_neg (fun k => e k.symm)] at hy
      by_cases hlt : x.1 < y.1
      · rw [get_none hB.2.2 (by omega)] at hx
        cases hx
      · rw [get_none hA.2.2 (by omega)] at hy
        cases hy
    rw [if_pos e1] at hx
    have exy : x = y := Prod.ext e1.symm (Option.some.inj hx)
    subst exy
    rw [same_rows hA.2.2 hB.2.2 fun m h1 h2 => by
      have := h m (by omega) h2
      unfold pkGet at this
      rwa [if_neg (by omega), if_neg (by omega)] at this]

theorem less_one {a b c d p q r s : Int} (h1 : vOk a b c d = true) (h2 : vOk p q r s = true) (hn : ¬ (a = p ∧ b = q ∧ c = r ∧ d = s)) : vLess p q r s a b c d = !vLess a b c d p q r s := by
  have k : vRank a b c d ≠ vRank p q r s := fun e => by
    have a := vOk_iff.1 h1
    have b := vOk_iff.1 h2
    unfold vRank at e
    rw [if_pos h1, if_pos h2] at e
    unfold rk at e
    exact hn (by omega)
  unfold vLess
  rw [h1, h2, Bool.true_and, Bool.true_and, Bool.true_and, Bool.true_and, ← decide_not, decide_eq_decide]
  omega
theorem bet_pair (A B : List Pk) (hA : ∀ q ∈ A, vOk q.2.1 q.2.2.1 q.2.2.2.1 q.2.2.2.2 = true) (hB : ∀ q ∈ B, vOk q.2.1 q.2.2.1 q.2.2.2.1 q.2.2.2.2 = true) :
    ∀ (f : Nat) (n : Int), ((∀ m, n ≤ m → m < n + f → pkGet m A = pkGet m B) → pbet A B f n = false ∧ pbet B A f n = false) ∧
      (¬ (∀ m, n ≤ m → m < n + f → pkGet m A = pkGet m B) → pbet B A f n = !pbet A B f n)
  | 0, n => ⟨fun _ => ⟨rfl, rfl⟩, fun h => absurd (fun m h1 h2 => absurd h2 (by simp; omega)) h⟩
  | f + 1, n => by
    have IH := bet_pair A B hA hB f (n + 1)
    have up : pkGet n A = pkGet n B → ((∀ m, n ≤ m → m < n + (f + 1 : Nat) → pkGet m A = pkGet m B) ↔ (∀ m, n + 1 ≤ m → m < n + 1 + f → pkGet m A = pkGet m B)) := fun e =>
      ⟨fun h m h1 h2 => h m (by omega) (by push_cast; omega), fun h m h1 h2 => by
        by_cases k : m = n
        · rw [k]; exact e
        · exact h m (by omega) (by push_cast at h2; omega)⟩
    have not : ¬ pkGet n A = pkGet n B → ¬ (∀ m, n ≤ m → m < n + (f + 1 : Nat) → pkGet m A = pkGet m B) := fun e h => e (h n (Int.le_refl _) (by push_cast; omega))
    unfold pbet
    rcases ea : pkGet n A with _ | ⟨a, b, c, d⟩
    · rcases eb : pkGet n B with _ | ⟨p, q, r, s⟩
      · rw [up (by rw [ea, eb])]
        exact IH
      · have k := not (by rw [ea, eb]; simp)
        exact ⟨fun h => absurd h k, fun _ => rfl⟩
    · rcases eb : pkGet n B with _ | ⟨p, q, r, s⟩
      · have k := not (by rw [ea, eb]; simp)
        exact ⟨fun h => absurd h k, fun _ => rfl⟩
      · simp only
        by_cases e : a = p ∧ b = q ∧ c = r ∧ d = s
        · obtain ⟨rfl, rfl, rfl, rfl⟩ := e
          rw [up (by rw [ea, eb]), if_pos ⟨rfl, rfl, rfl, rfl⟩, if_pos ⟨rfl, rfl, rfl, rfl⟩]
          exact IH
        · have k := not (by rw [ea, eb]; intro h; simp at h; exact e h)
          rw [if_neg e, if_neg (fun h => e ⟨h.1.symm, h.2.1.symm, h.2.2.1.symm, h.2.2.2.symm⟩)]
          refine ⟨fun h => absurd h k, fun _ => ?_⟩
          have va := hA _ (get_mem ea)
          have vb := hB _ (get_mem eb)
          rw [less_one va vb e, Bool.not_not]
/-- Of two fine rows: one is better, or they are one; never both. -/
theorem better_law {A B : List Pk} (hA : pkOk A = true) (hB : pkOk B = true) : decide (A = B) = (!pkBetter A B && !pkBetter B A) ∧ (pkBetter A B && pkBetter B A) = false := by
  have H := bet_pair A B (fun q h => (from_top hA q h).2) (fun q h => (from_top hB q h).2) 8 0
  have b1 : pkBetter A B = pbet A B 8 0 := by unfold pkBetter; rw [hA, hB]; rfl
  have b2 : pkBetter B A = pbet B A 8 0 := by unfold pkBetter; rw [hA, hB]; rfl
  rw [b1, b2]
  by_cases e : A = B
  · have k := H.1 (fun m _ _ => by rw [e])
    rw [k.1, k.2, decide_eq_true e]
    exact ⟨rfl, rfl⟩
  · have k := H.2 (fun h => e (same_rows hA hB fun m h1 h2 => h m h1 (by omega)))
    rw [k, decide_eq_false e]
    cases pbet A B 8 0 <;> exact ⟨rfl, rfl⟩
end Pkf
end Go.Proofs.Ytjnmkkcdcacakaa
