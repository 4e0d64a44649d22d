/- Which names are needed, as plain facts: each of them is picked; fewer needs need no more; what is left of a choice that meets all needs, without what is not needed, is fine, and nothing more can be left out. No condition. -/
import Derived.Test.YtgenjbeamlffmaaRch
import Derived.Test.YtgenjbeamlffmaaCff
namespace Go.Proofs.Ytgenjbeamlffmaa
open Go.RowKit Go.Sort

namespace Rch
open Foot Copy Nup Cpu Cfa
theorem sh_five {S : List Rel} (h : shOk S = true) : ∀ q ∈ S, q.2.2.2.length ≤ 5 := fun q hq => nd_len (sh_needs h q hq)
theorem get_mem {n : Int} {v : V4} : ∀ {C : List Pk}, pkGet n C = some v → (n, v) ∈ C
  | [], h => by simp [pkGet] at h
  | q :: t, h => by
    unfold pkGet at h
    split at h
    · rename_i hq
      injection h with h
      obtain ⟨q1, q2⟩ := q
      simp only at hq h
      subst hq
      subst h
      exact List.mem_cons_self
    · exact List.mem_cons_of_mem _ (get_mem h)
theorem pk_low : ∀ {M : List Pk} {lo : Int}, pkFrom lo M = true → ∀ q ∈ M, lo ≤ q.1
  | [], _, _, q, hq => by simp at hq
  | x :: t, lo, h, q, hq => by
    simp only [pkFrom, Bool.and_eq_true, decide_eq_true_eq] at h
    rcases List.mem_cons.1 hq with rfl | hq
    · exact h.1.1
    · have := pk_low h.2.2 q hq
      omega
theorem get_some {n : Int} {v : V4} : ∀ {C : List Pk} {lo : Int}, pkFrom lo C = true → (n, v) ∈ C → pkGet n C = some v
  | [], _, _, h => by simp at h
  | q :: t, lo, hf, h => by
    simp only [pkFrom, Bool.and_eq_true, decide_eq_true_eq] at hf
    unfold pkGet
    rcases List.mem_cons.1 h with h | h
    · rw [← h, if_pos rfl]
    · have := pk_low hf.2.2 _ h
      rw [if_neg (by simp only at this; omega)]
      exact get_some hf.2.2 h
theorem reach_mem {S : List Rel} {N : List Nd} {C : List Pk} (hS : shOk S = true) (hN : ndOk N = true) (hC : pkOk C = true) (z : Int) : z ∈ reachL S N C ↔ ∃ x, Up S N C x ∧ x.1 = z := by
  unfold reachL trimL
  rw [hS, hN, hC, if_pos (by rfl), List.mem_map]
  constructor
  · rintro ⟨x, h1, h2⟩
    exact ⟨x, (came_up (sh_five hS) (nd_len hN) (by have := pk_len hC; omega) x).1 h1, h2⟩
  · rintro ⟨x, h1, h2⟩
    exact ⟨x, (came_up (sh_five hS) (nd_len hN) (by have := pk_len hC; omega) x).2 h1, h2⟩
theorem reach_ok {S : List Rel} {N : List Nd} {C : List Pk} {z : Int} (h : z ∈ reachL S N C) : shOk S = true ∧ ndOk N = true ∧ pkOk C = true := by
  unfold reachL trimL at h
  split at h
  · rename_i hh
    rw [Bool.and_eq_true, Bool.and_eq_true] at hh
    exact ⟨hh.1.1, hh.1.2, hh.2⟩
  · simp at h
/-- Each name that is needed is picked. -/
theorem reach_picked {S : List Rel} {N : List Nd} {C : List Pk} {z : Int} (h : z ∈ reachL S N C) : ∃ a b c d, pkOf C z = some (a, b, c, d) := by
  obtain ⟨hS, hN, hC⟩ := reach_ok h
  obtain ⟨x, h1, rfl⟩ := (reach_mem hS hN hC z).1 h
  obtain ⟨x1, a, b, c, d⟩ := x
  refine ⟨a, b, c, d, ?_⟩
  unfold pkOf
  rw [if_pos hC]
  exact get_some (lo := 0) hC h1.mem
/-- Fewer needs need no more. -/
theorem reach_less {S : List Rel} {N : List Nd} {C : List Pk} {z : Int} (k : Nat) (hN : ndOk N = true) (h : z ∈ reachL S (N.take k) C) : z ∈ reachL S N C := by
  obtain ⟨hS, hN', hC⟩ := reach_ok h
  obtain ⟨x, h1, h2⟩ := (reach_mem hS hN' hC z).1 h
  exact (reach_mem hS hN hC z).2 ⟨x, h1.more (fun n hn => List.mem_of_mem_take hn) (fun x hx => hx), h2⟩
theorem end_ok {S : List Rel} {N : List Nd} {C : List Pk} (hS : ∀ q ∈ S, q.2.2.2.length ≤ 5) : ∀ (f i : Nat) (st : St), OkK S N C st → OkK S N C (runK S C f i st)
  | 0, _, _, h => h
  | f + 1, i, st, h => by
    rcases hn : st.2[i]? with _ | n
    · rw [runK_end (List.getElem?_eq_none_iff.1 hn)]
      exact h
    · rw [runK_step hn]
      exact end_ok hS f (i + 1) _ (passK_ok hS n.1 C 0 st h)
theorem end_flags {S : List Rel} {N : List Nd} {C : List Pk} (hS : ∀ q ∈ S, q.2.2.2.length ≤ 5) : (endK S N C).1.length = C.length := (end_ok hS 200 0 (startK C N) OkK.start).flags
theorem came_whole : ∀ {C : List Pk} {c : List Bool}, c.length = C.length → (∀ j, j < C.length → c.getD j true = true) → cameL C c = C
  | [], _, _, _ => by simp [cameL]
  | x :: t, [], h, _ => by simp at h
  | x :: t, b :: c, h, hf => by
    have hb : b = true := by simpa using hf 0 (by simp)
    have ih := came_whole (C := t) (c := c) (by simpa using h) (fun j hj => by simpa using hf (j + 1) (by simpa using hj))
    show (if b = true then [x] else []) ++ cameL t c = x :: t
    rw [if_pos hb, ih]
    rfl
/-- Where all picks are needed, the walk finds them all. -/
theorem came_all {S : List Rel} {N : List Nd} {C : List Pk} (hS : shOk S = true) (hN : ndOk N = true) (hC : pkOk C = true) (h : ∀ x ∈ C, Up S N C x) : cameL C (endK S N C).1 = C := by
  refine came_whole (end_flags (sh_five hS)) fun j hj => ?_
  have hm := (came_up (sh_five hS) (nd_len hN) (by have := pk_len hC; omega) C[j]).2 (h _ (List.getElem_mem hj))
  have hf := came_flag (c := (endK S N C).1) (lo := 0) hC (List.getElem?_eq_getElem hj) (by rw [end_flags (sh_five hS)]; exact hj)
  rw [← hf]
  unfold hasP
  rw [List.any_eq_true]
  exact ⟨_, hm, by simp⟩
/-- A name is picked once. -/
theorem pk_one {n : Int} : ∀ {C : List Pk} {lo : Int} {u v : V4}, pkFrom lo C = true → (n, u) ∈ C → (n, v) ∈ C → u = v := fun {C lo u v} h h1 h2 => by
  have e1 := get_some h h1
  rw [get_some h h2] at e1
  injection e1 with e1
  exact e1.symm
theorem met_mem {C : List Pk} {n : Nd} (h : metP C n = true) : ∃ v : V4, (n.1, v) ∈ C ∧ hasL n.2 v.1 v.2.1 v.2.2.1 v.2.2.2 = true := by
  unfold metP at h
  rcases hg : pkGet n.1 C with _ | v
  · rw [hg] at h; simp at h
  · rw [hg] at h
    exact ⟨v, get_mem hg, h⟩
theorem met_of {C : List Pk} {n : Nd} {v : V4} {lo : Int} (hC : pkFrom lo C = true) (hm : (n.1, v) ∈ C) (h : hasL n.2 v.1 v.2.1 v.2.2.1 v.2.2.2 = true) : metP C n = true := by
  unfold metP
  rw [get_some hC hm]
  exact h
/-- What is left of a choice without what is not needed. -/
structure Fine (S : List Rel) (N : List Nd) (H C : List Pk) : Prop where
  sh : shOk S = true
  nd : ndOk N = true
  held : pkOk H = true
  pk : pkOk C = true
  there : ∀ x ∈ C, thereP S x = true
  allow : ∀ x ∈ C, allowP S H x = true
  met : ∀ n ∈ N, metP C n = true
  inner : ∀ x ∈ C, ∀ n ∈ ndsOf S x, metP C n = true
theorem Fine.of {S : List Rel} {N : List Nd} {H C : List Pk} (h : faultF S N H C = 6 ∨ faultF S N H C = 0) : Fine S N H C := by
  unfold faultF at h
  by_cases h0 : (shOk S && (ndOk N && (pkOk H && pkOk C))) = true
  · rw [if_pos h0] at h
    by_cases h1 : C.all (thereP S) = true
    · rw [if_pos h1] at h
      by_cases h2 : C.all (allowP S H) = true
      · rw [if_pos h2] at h
        by_cases h3 : N.all (metP C) = true
        · rw [if_pos h3] at h
          by_cases h4 : C.all (innerP S C) = true
          · simp only [Bool.and_eq_true] at h0
            exact ⟨h0.1, h0.2.1, h0.2.2.1, h0.2.2.2, List.all_eq_true.1 h1, List.all_eq_true.1 h2, List.all_eq_true.1 h3, fun x hx => List.all_eq_true.1 (List.all_eq_true.1 h4 x hx)⟩
          · rw [if_neg h4] at h; rcases h with h | h <;> cases h
        · rw [if_neg h3] at h; rcases h with h | h <;> cases h
      · rw [if_neg h2] at h; rcases h with h | h <;> cases h
    · rw [if_neg h1] at h; rcases h with h | h <;> cases h
  · rw [if_neg h0] at h; rcases h with h | h <;> cases h
theorem Fine.fault {S : List Rel} {N : List Nd} {H C : List Pk} (h : Fine S N H C) : faultF S N H C = if (cameL C (endK S N C).1).length < C.length then 6 else 0 := by
  unfold faultF
  rw [if_pos (by rw [h.sh, h.nd, h.held, h.pk]; rfl), if_pos (List.all_eq_true.2 h.there), if_pos (List.all_eq_true.2 h.allow), if_pos (List.all_eq_true.2 h.met),
    if_pos (List.all_eq_true.2 fun x hx => by unfold innerP; exact List.all_eq_true.2 (h.inner x hx))]
theorem Fine.needed {S : List Rel} {N : List Nd} {H C : List Pk} (h : Fine S N H C) (h0 : faultF S N H C = 0) : ∀ x ∈ C, Up S N C x := by
  rw [h.fault] at h0
  split at h0
  · cases h0
  · rename_i hn
    intro x hx
    refine (came_up (sh_five h.sh) (nd_len h.nd) (by have := pk_len h.pk; omega) x).1 ?_
    have hl := cameL_len C (endK S N C).1
    have hfl := end_flags (N := N) (C := C) (sh_five h.sh)
    have key : ∀ {C : List Pk} {c : List Bool}, c.length = C.length → ¬ (cameL C c).length < C.length → cameL C c = C := by
      intro C
      induction C with
      | nil => intro c _ _; simp [cameL]
      | cons y t ih =>
        intro c hc hlt
        cases c with
        | nil => simp at hc
        | cons b c =>
          have hl := cameL_len t c
          have hlt' : ¬ ((if b = true then [y] else []) ++ cameL t c).length < (y :: t).length := hlt
          show (if b = true then [y] else []) ++ cameL t c = y :: t
          by_cases hb : b = true
          · rw [if_pos hb] at hlt' ⊢
            rw [ih (by simpa using hc) (by simp at hlt'; omega)]
            rfl
          · rw [if_neg hb] at hlt'
            simp at hlt'
            omega
    rw [key hfl hn]
    exact hx
theorem Fine.zero {S : List Rel} {N : List Nd} {H C : List Pk} (h : Fine S N H C) (hu : ∀ x ∈ C, Up S N C x) : faultF S N H C = 0 := by
  rw [h.fault, came_all h.sh h.nd h.pk hu, if_neg (Nat.lt_irrefl _)]
theorem trim_came {S : List Rel} {N : List Nd} {C : List Pk} (hS : shOk S = true) (hN : ndOk N = true) (hC : pkOk C = true) : trimL S N C = cameL C (endK S N C).1 := by
  unfold trimL
  rw [hS, hN, hC, if_pos (by rfl)]
theorem trim_mem {S : List Rel} {N : List Nd} {C : List Pk} (hS : shOk S = true) (hN : ndOk N = true) (hC : pkOk C = true) (x : Pk) : x ∈ trimL S N C ↔ Up S N C x := by
  rw [trim_came hS hN hC]
  exact came_up (sh_five hS) (nd_len hN) (by have := pk_len hC; omega) x
theorem trim_ok {S : List Rel} {N : List Nd} {C : List Pk} : pkOk (trimL S N C) = true := by
  unfold trimL
  split
  · rename_i h
    rw [Bool.and_eq_true] at h
    exact came_from (lo := 0) h.2
  · rfl
/-- Trimmed twice is trimmed once. -/
theorem trim_twice (S : List Rel) (N : List Nd) (C : List Pk) : trimL S N (trimL S N C) = trimL S N C := by
  by_cases h : (shOk S && ndOk N && pkOk C) = true
  · rw [Bool.and_eq_true, Bool.and_eq_true] at h
    rw [trim_came h.1.1 h.1.2 trim_ok]
    refine came_all h.1.1 h.1.2 trim_ok fun x hx => ?_
    exact ((trim_mem h.1.1 h.1.2 h.2 x).1 hx).less fun y hy => (trim_mem h.1.1 h.1.2 h.2 y).2 hy
  · have e : trimL S N C = [] := by unfold trimL; rw [if_neg h]
    rw [e]
    unfold trimL
    split <;> simp [cameL]
/-- Picks that meet all needs but are not all needed are a choice when these are left out. -/
theorem trim_fine {S : List Rel} {N : List Nd} {H C : List Pk} (h6 : faultF S N H C = 6) : faultF S N H (trimL S N C) = 0 := by
  have h := Fine.of (.inl h6)
  have hm := trim_mem h.sh h.nd h.pk
  have hsub : ∀ x ∈ trimL S N C, x ∈ C := fun x hx => ((hm x).1 hx).mem
  refine Fine.zero ⟨h.sh, h.nd, h.held, trim_ok, fun x hx => h.there x (hsub x hx), fun x hx => h.allow x (hsub x hx), fun n hn => ?_, fun x hx n hn => ?_⟩ fun x hx => ((hm x).1 hx).less fun y hy => (hm y).2 hy
  · obtain ⟨v, h1, h2⟩ := met_mem (h.met n hn)
    exact met_of (lo := 0) trim_ok ((hm _).2 (.own hn h1 rfl)) h2
  · obtain ⟨v, h1, h2⟩ := met_mem (h.inner x (hsub x hx) n hn)
    exact met_of (lo := 0) trim_ok ((hm _).2 (.dep ((hm x).1 hx) hn h1 rfl)) h2
/-- One pick less is not fine. -/
theorem less_fault {S : List Rel} {N : List Nd} {H C : List Pk} {k : Nat} (hk : k < C.length) (h0 : faultF S N H C = 0) : ¬ faultF S N H (C.take k ++ C.drop (k + 1)) = 0 := by
  intro h1
  have h := Fine.of (.inr h0)
  have g := Fine.of (.inr h1)
  have hsub : ∀ x ∈ C.take k ++ C.drop (k + 1), x ∈ C := fun x hx => by
    rcases List.mem_append.1 hx with hx | hx
    · exact List.mem_of_mem_take hx
    · exact List.mem_of_mem_drop hx
  have same : ∀ {n : Nd} {y : Pk}, metP (C.take k ++ C.drop (k + 1)) n = true → y ∈ C → y.1 = n.1 → y ∈ C.take k ++ C.drop (k + 1) := fun {n y} hm hy he => by
    obtain ⟨v, h2, _⟩ := met_mem hm
    obtain ⟨y1, y2⟩ := y
    simp only at he
    subst he
    rw [pk_one (lo := 0) h.pk hy (hsub _ h2)]
    exact h2
  have all : ∀ y, Up S N C y → y ∈ C.take k ++ C.drop (k + 1) := fun y hy => by
    induction hy with
    | own h2 h3 h4 => exact same (g.met _ h2) h3 h4
    | dep _ h3 h4 h5 ih => exact same (g.inner _ ih _ h3) h4 h5
  have hx := all C[k] (h.needed h0 _ (List.getElem_mem hk))
  have asc : ∀ {C : List Pk} {lo : Int} (i j : Nat) (hi : i < C.length) (hj : j < C.length), pkFrom lo C = true → C[i].1 = C[j].1 → i = j := by
    intro C
    induction C with
    | nil => intro lo i j hi; simp at hi
    | cons x t ih =>
      intro lo i j hi hj hf he
      simp only [pkFrom, Bool.and_eq_true, decide_eq_true_eq] at hf
      cases i with
      | zero =>
        cases j with
        | zero => rfl
        | succ j =>
          have := pk_low hf.2.2 _ (List.getElem_mem (by simpa using hj : j < t.length))
          simp only [List.getElem_cons_zero, List.getElem_cons_succ] at he
          omega
      | succ i =>
        cases j with
        | zero =>
          have := pk_low hf.2.2 _ (List.getElem_mem (by simpa using hi : i < t.length))
          simp only [List.getElem_cons_zero, List.getElem_cons_succ] at he
          omega
        | succ j => rw [ih i j (by simpa using hi) (by simpa using hj) hf.2.2 (by simpa using he)]
  rcases List.mem_append.1 hx with hx | hx
  · obtain ⟨i, hi, he⟩ := List.getElem_of_mem hx
    rw [List.getElem_take] at he
    have hi' : i < k := by simp at hi; omega
    have := asc (lo := 0) i k (by omega) hk h.pk (by rw [he])
    omega
  · obtain ⟨i, hi, he⟩ := List.getElem_of_mem hx
    rw [List.getElem_drop] at he
    have hi' : k + 1 + i < C.length := by simp at hi; omega
    have := asc (lo := 0) (k + 1 + i) k hi' hk h.pk (by rw [he])
    omega
/-- All of a choice that is fine is needed; and it is fine where it is held itself. -/
theorem fine_all {S : List Rel} {N : List Nd} {H C : List Pk} (h0 : faultF S N H C = 0) : (reachL S N C).length = C.length ∧ faultF S N C C = 0 := by
  have h := Fine.of (.inr h0)
  refine ⟨?_, Fine.zero ⟨h.sh, h.nd, h.pk, h.pk, h.there, fun x hx => ?_, h.met, h.inner⟩ (h.needed h0)⟩
  · unfold reachL
    rw [List.length_map, trim_came h.sh h.nd h.pk, came_all h.sh h.nd h.pk (h.needed h0)]
  · unfold allowP heldP
    obtain ⟨x1, x2⟩ := x
    rw [decide_eq_true (get_some (lo := 0) h.pk hx)]
    simp
end Rch
end Go.Proofs.Ytgenjbeamlffmaa
