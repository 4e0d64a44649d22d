/- Plain facts on choices with the fewest changes of a lock: the first one of a row with the least cost, found by going through it; what is picked and open bounds what is lost. No condition. -/
import Derived.Test.YtmhamoeibkpnpaaGj
import Derived.Test.YtmhamoeibkpnpaaGk
import Derived.Test.YtmhamoeibkpnpaaLkc
namespace Go.Proofs.Ytmhamoeibkpnpaa
open Go.RowKit Go.Sort

namespace Rlk
open Foot Copy Nup Cpu Cfa Rch Gof Pof Svp Lkc
/-- How many picks of a row a choice has lost. -/
def cost (K d : List Pk) : Nat := lostL K d []
def stp (K : List Pk) (s : List Pk × Nat) (d : List Pk) : List Pk × Nat := if cost K d < s.2 then (d, cost K d) else s
/-- The first choice of a row that has fewer changes than so many, and the fewest. -/
def scan (K : List Pk) (s : List Pk × Nat) (X : List (List Pk)) : List Pk × Nat := X.foldl (stp K) s
theorem scan_nil (K : List Pk) (s : List Pk × Nat) : scan K s [] = s := rfl
theorem scan_cons (K : List Pk) (s : List Pk × Nat) (d : List Pk) (X : List (List Pk)) : scan K s (d :: X) = scan K (stp K s d) X := rfl
theorem scan_app (K : List Pk) (s : List Pk × Nat) (X Y : List (List Pk)) : scan K s (X ++ Y) = scan K (scan K s X) Y := List.foldl_append
theorem scan_le (K : List Pk) : ∀ (X : List (List Pk)) (s : List Pk × Nat), (scan K s X).2 ≤ s.2
  | [], s => Nat.le_refl _
  | d :: X, s => by
    rw [scan_cons]
    refine Nat.le_trans (scan_le K X _) ?_
    unfold stp
    split
    · show cost K d ≤ s.2; omega
    · exact Nat.le_refl _
theorem scan_none {K : List Pk} : ∀ {X : List (List Pk)} {s : List Pk × Nat}, (∀ d ∈ X, s.2 ≤ cost K d) → scan K s X = s
  | [], _, _ => rfl
  | d :: X, s, h => by
    rw [scan_cons]
    have e : stp K s d = s := by unfold stp; rw [if_neg (by have := h d (by simp); omega)]
    rw [e]
    exact scan_none fun d' hd' => h d' (List.mem_cons_of_mem _ hd')
theorem scan_two (K : List Pk) : ∀ (Y : List (List Pk)) (s : List Pk × Nat), scan K s Y = if (scan K ([], s.2) Y).2 < s.2 then scan K ([], s.2) Y else s
  | [], s => by rw [scan_nil, scan_nil, if_neg (Nat.lt_irrefl _)]
  | d :: Y, s => by
    rw [scan_cons, scan_cons]
    by_cases h : cost K d < s.2
    · have e1 : stp K s d = (d, cost K d) := by unfold stp; rw [if_pos h]
      have e2 : stp K ([], s.2) d = (d, cost K d) := by unfold stp; rw [if_pos h]
      rw [e1, e2, if_pos (Nat.lt_of_le_of_lt (scan_le K Y _) h)]
    · have e1 : stp K s d = s := by unfold stp; rw [if_neg h]
      have e2 : stp K ([], s.2) d = ([], s.2) := by unfold stp; rw [if_neg h]
      rw [e1, e2]
      exact scan_two K Y s
theorem scan_still (K : List Pk) (f : Nat) (X : List (List Pk)) : (scan K ([], f) X).2 < f ∨ scan K ([], f) X = ([], f) := by
  by_cases h : (scan K ([], f) X).2 < f
  · exact .inl h
  · refine .inr ?_
    have : ∀ (X : List (List Pk)) (s : List Pk × Nat), ¬ (scan K s X).2 < s.2 → scan K s X = s := fun X => by
      induction X with
      | nil => intro s _; rfl
      | cons d X ih =>
        intro s hs
        rw [scan_cons] at hs ⊢
        by_cases h : cost K d < s.2
        · have e1 : stp K s d = (d, cost K d) := by unfold stp; rw [if_pos h]
          rw [e1] at hs
          exact absurd (Nat.lt_of_le_of_lt (scan_le K X _) h) hs
        · have e1 : stp K s d = s := by unfold stp; rw [if_neg h]
          rw [e1] at hs ⊢
          exact ih s hs
    exact this X _ h
/-- What is picked and open bounds what is lost. -/
theorem lost_low {K c O d : List Pk} (h : ∀ x ∈ d, x ∈ c ++ O) : lostL K c O ≤ cost K d := by
  unfold cost lostL
  rw [← List.countP_eq_length_filter, ← List.countP_eq_length_filter]
  refine List.countP_mono_left fun x _ hx => ?_
  simp only [Bool.and_eq_true, Bool.not_eq_true', decide_eq_false_iff_not] at hx ⊢
  refine ⟨fun hd => ?_, by simp⟩
  rcases List.mem_append.1 (h x hd) with k | k
  · exact hx.1 k
  · exact hx.2 k
theorem best_sub {S : List Rel} {N : List Nd} {H c O : List Pk} (hS : shOk S = true) (hG : Svp.Good S H c O) {d : List Pk} (hd : d ∈ bestL S N H c O) : ∀ x ∈ d, x ∈ c ++ O := by
  unfold bestL at hd
  exact (comps_mem hS _ c O hG d (List.mem_filter.1 hd).1).2.1
theorem scan_pruned {S : List Rel} {N : List Nd} {H c O K : List Pk} {f : Nat} (hS : shOk S = true) (hG : Svp.Good S H c O) (h : f ≤ lostL K c O) : scan K ([], f) (bestL S N H c O) = ([], f) :=
  scan_none fun _ hd => Nat.le_trans h (lost_low (best_sub hS hG hd))
theorem scan_one {K c : List Pk} {f : Nat} (h : lostL K c [] < f) : scan K ([], f) [c] = (c, lostL K c []) := by
  rw [scan_cons, scan_nil]
  unfold stp
  exact if_pos h
theorem scan_zero {K : List Pk} {s : List Pk × Nat} (h : s.2 = 0) (X : List (List Pk)) : scan K s X = s := scan_none fun _ _ => by omega
/-- One way more. -/
theorem scan_more (K : List Pk) (f : Nat) (X Y : List (List Pk)) : scan K ([], f) (X ++ Y) = if (scan K ([], (scan K ([], f) X).2) Y).2 < (scan K ([], f) X).2 then scan K ([], (scan K ([], f) X).2) Y else scan K ([], f) X := by
  rw [scan_app]
  exact scan_two K Y _

/-- What Relock answers. -/
def relockL (S : List Rel) (N : List Nd) (D : List Pk) (F : List Int) : Option (List Pk) :=
  if (shOk S && (ndOk N && pkOk D)) = true then
    (if (scan (keptL D F) ([], (keptL D F).length + 1) (bestL S N D [] (openL S D))).2 < (keptL D F).length + 1 then some (scan (keptL D F) ([], (keptL D F).length + 1) (bestL S N D [] (openL S D))).1 else none)
  else none
theorem cost_le (K d : List Pk) : cost K d ≤ K.length := lost_len K d []
/-- However many changes are allowed at first, if all may be made. -/
theorem scan_from (K : List Pk) (f g : Nat) (hf : K.length < f) (hg : K.length < g) (X : List (List Pk)) : ((scan K ([], f) X).2 < f ↔ (scan K ([], g) X).2 < g) ∧ (scan K ([], f) X).1 = (scan K ([], g) X).1 ∧ ((scan K ([], f) X).2 < f → scan K ([], f) X = scan K ([], g) X) := by
  rcases X with _ | ⟨d, X⟩
  · rw [scan_nil, scan_nil]
    exact ⟨by simp, rfl, fun h => absurd h (Nat.lt_irrefl _)⟩
  · have hc := cost_le K d
    have e1 : stp K ([], f) d = (d, cost K d) := by unfold stp; exact if_pos (by show cost K d < f; omega)
    have e2 : stp K ([], g) d = (d, cost K d) := by unfold stp; exact if_pos (by show cost K d < g; omega)
    rw [scan_cons, scan_cons, e1, e2]
    have := scan_le K X (d, cost K d)
    simp only at this
    exact ⟨⟨fun _ => by omega, fun _ => by omega⟩, rfl, fun _ => rfl⟩
theorem relock_some {S : List Rel} {N : List Nd} {D : List Pk} {F : List Int} {L : List Pk} (h : relockL S N D F = some L) :
    faultF S N D L = 0 ∧ ∀ d, faultF S N D d = 0 → cost (keptL D F) L < cost (keptL D F) d ∨ (cost (keptL D F) L = cost (keptL D F) d ∧ (d = L ∨ pkBetter L d = true)) := by
  unfold relockL at h
  split at h
  · rename_i hok
    split at h
    · rename_i hlt
      simp only [Option.some.injEq] at h
      simp only [Bool.and_eq_true] at hok
      have hsort := best_sorted N D hok.1
      have key : ∀ (X : List (List Pk)) (s : List Pk × Nat), X.Pairwise (fun A B => pkBetter A B = true) → (scan (keptL D F) s X).2 < s.2 →
          (scan (keptL D F) s X).1 ∈ X ∧ (scan (keptL D F) s X).2 = cost (keptL D F) (scan (keptL D F) s X).1 ∧ ∀ d ∈ X, (scan (keptL D F) s X).2 < cost (keptL D F) d ∨ ((scan (keptL D F) s X).2 = cost (keptL D F) d ∧ (d = (scan (keptL D F) s X).1 ∨ pkBetter (scan (keptL D F) s X).1 d = true)) := fun X => by
        induction X with
        | nil => intro s _ h; exact absurd h (Nat.lt_irrefl _)
        | cons x X ih =>
          intro s hp hs
          rw [scan_cons] at hs ⊢
          obtain ⟨hp1, hp2⟩ := List.pairwise_cons.1 hp
          by_cases hc : cost (keptL D F) x < s.2
          · have e : stp (keptL D F) s x = (x, cost (keptL D F) x) := by unfold stp; rw [if_pos hc]
            rw [e]
            by_cases hq : (scan (keptL D F) (x, cost (keptL D F) x) X).2 < cost (keptL D F) x
            · obtain ⟨h1, h2, h3⟩ := ih _ hp2 hq
              refine ⟨List.mem_cons_of_mem _ h1, h2, fun d hd => ?_⟩
              rcases List.mem_cons.1 hd with rfl | hd
              · exact .inl hq
              · exact h3 d hd
            · have hst : scan (keptL D F) (x, cost (keptL D F) x) X = (x, cost (keptL D F) x) := by
                have := scan_two (keptL D F) X (x, cost (keptL D F) x)
                rw [this]
                rw [this] at hq
                split
                · rename_i hh
                  rw [if_pos hh] at hq
                  exact absurd hh hq
                · rfl
              rw [hst]
              refine ⟨List.mem_cons_self, rfl, fun d hd => ?_⟩
              rcases List.mem_cons.1 hd with rfl | hd
              · exact .inr ⟨rfl, .inl rfl⟩
              · have hge : cost (keptL D F) x ≤ cost (keptL D F) d := by
                  rcases Nat.lt_or_ge (cost (keptL D F) d) (cost (keptL D F) x) with hl | hl
                  · exfalso
                    -- a cheaper one would have been taken
                    have : ∀ (Y : List (List Pk)) (s : List Pk × Nat), d ∈ Y → (scan (keptL D F) s Y).2 ≤ cost (keptL D F) d := fun Y => by
                      induction Y with
                      | nil => intro s h; simp at h
                      | cons y Y ihY =>
                        intro s h
                        rw [scan_cons]
                        rcases List.mem_cons.1 h with rfl | h
                        · refine Nat.le_trans (scan_le _ Y _) ?_
                          unfold stp
                          split
                          · exact Nat.le_refl _
                          · omega
                        · exact ihY _ h
                    have := this X (x, cost (keptL D F) x) hd
                    rw [hst] at this
                    simp only at this
                    omega
                  · exact hl
                rcases Nat.lt_or_eq_of_le hge with hl | hl
                · exact .inl hl
                · exact .inr ⟨hl, .inr (hp1 d hd)⟩
          · have e : stp (keptL D F) s x = s := by unfold stp; rw [if_neg hc]
            rw [e] at hs ⊢
            obtain ⟨h1, h2, h3⟩ := ih _ hp2 hs
            refine ⟨List.mem_cons_of_mem _ h1, h2, fun d hd => ?_⟩
            rcases List.mem_cons.1 hd with rfl | hd
            · exact .inl (by omega)
            · exact h3 d hd
      obtain ⟨h1, h2, h3⟩ := key _ ([], (keptL D F).length + 1) hsort hlt
      rw [h] at h1 h2 h3
      refine ⟨best_fine h1, fun d hd => ?_⟩
      have := h3 d (fine_mem hd)
      rwa [h2] at this
    · cases h
  · cases h
theorem relock_none {S : List Rel} {N : List Nd} {D : List Pk} {F : List Int} (h : relockL S N D F = none) (d : List Pk) : ¬ faultF S N D d = 0 := by
  intro h0
  have Fi := Fine.of (.inr h0)
  have hm := fine_mem h0
  unfold relockL at h
  rw [if_pos (by rw [Fi.sh, Fi.nd, Fi.held]; rfl)] at h
  split at h
  · cases h
  · rename_i hn
    refine hn ?_
    have : ∀ (Y : List (List Pk)) (s : List Pk × Nat), d ∈ Y → (scan (keptL D F) s Y).2 ≤ cost (keptL D F) d := fun Y => by
      induction Y with
      | nil => intro s h; simp at h
      | cons y Y ihY =>
        intro s h
        rw [scan_cons]
        rcases List.mem_cons.1 h with rfl | h
        · refine Nat.le_trans (scan_le _ Y _) ?_
          unfold stp
          split
          · exact Nat.le_refl _
          · omega
        · exact ihY _ h
    have := this _ ([], (keptL D F).length + 1) hm
    have := cost_le (keptL D F) d
    omega
theorem relock_len (S : List Rel) (N : List Nd) (D : List Pk) (F : List Int) : ((relockL S N D F).getD []).length ≤ 8 := by
  rcases h : relockL S N D F with _ | L
  · simp
  · exact pk_len (Fine.of (.inr (relock_some h).1)).pk
theorem relock_ok {S : List Rel} {N : List Nd} {D : List Pk} {F : List Int} (h : ¬ (shOk S && (ndOk N && pkOk D)) = true) : relockL S N D F = none := by
  unfold relockL
  rw [if_neg h]
end Rlk
end Go.Proofs.Ytmhamoeibkpnpaa
