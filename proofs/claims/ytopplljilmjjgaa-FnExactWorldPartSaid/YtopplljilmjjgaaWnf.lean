/- What a target of a world needs, as plain facts: it needs itself, and what is needed needs nothing more. No condition. -/
import Derived.Test.YtopplljilmjjgaaWni
import Derived.Test.YtopplljilmjjgaaWns
namespace Go.Proofs.Ytopplljilmjjgaa
open Go.RowKit Go.Sort

namespace Wn
open Tg Wl Pot
/-- What is true of one row of truths is true of another one. -/
def Sub (n : Nat) (d c : List Bool) : Prop := ∀ q, q < n → d.getD q true = true → c.getD q true = true
theorem sub_mark {n : Nat} {c : List Bool} : ∀ {N : List Int} {d : List Bool}, Sub n d c → (∀ x ∈ N, c.getD x.toNat true = true) → Sub n (mark d N) c
  | [], _, h, _ => h
  | x :: t, d, h, hN => sub_mark (N := t) (d := d.set x.toNat true) (fun q hq hd => by
      rw [getD_set] at hd
      split at hd
      · rename_i e
        rw [e]
        exact hN x (List.mem_cons_self ..)
      · exact h q hq hd) fun y hy => hN y (List.mem_cons_of_mem _ hy)
theorem mark_set : ∀ {N : List Int} {c : List Bool} {x : Int}, x ∈ N → (mark c N).getD x.toNat true = true
  | y :: t, c, x, h => by
    rcases List.mem_cons.1 h with rfl | h
    · exact mark_true (N := t) (c := c.set x.toNat true) (by rw [getD_set, if_pos rfl])
    · exact mark_set (N := t) (c := c.set y.toNat true) h
theorem mark_far : ∀ {N : List Int} {c : List Bool} {q : Nat}, (∀ x ∈ N, x.toNat ≠ q) → (mark c N).getD q true = c.getD q true
  | [], _, _, _ => rfl
  | y :: t, c, q, h => by
    show (mark (c.set y.toNat true) t).getD q true = _
    rw [mark_far (N := t) fun x hx => h x (List.mem_cons_of_mem _ hx), getD_set, if_neg (fun e => h y (List.mem_cons_self ..) e.symm)]
/-- From a place on, what is true has all that it needs. -/
def Cl (S : List Tgt) (n j : Nat) (c : List Bool) : Prop := ∀ i, j ≤ i → i < n → c.getD i true = true → ∀ x ∈ insAt S i, c.getD x.toNat true = true
theorem nd_true {S : List Tgt} {j q : Nat} {c : List Bool} (h : c.getD q true = true) : (nd S j c).getD q true = true := by
  unfold nd
  split
  · exact mark_true h
  · exact h
theorem down_true {S : List Tgt} {q : Nat} : ∀ (j : Nat) {c : List Bool}, c.getD q true = true → (down S j c).getD q true = true
  | 0, _, h => h
  | j + 1, _, h => down_true j (nd_true h)
theorem cl_nd {S : List Tgt} (hw : wOk S = true) {n j : Nat} {c : List Bool} (h : Cl S n (j + 1) c) : Cl S n j (nd S j c) := fun i h1 h2 h3 x hx => by
  by_cases e : i = j
  · subst e
    unfold nd at h3 ⊢
    by_cases hc : c.getD i true = true
    · rw [if_pos hc]
      exact mark_set hx
    · rw [if_neg hc] at h3
      exact absurd h3 hc
  · refine nd_true (h i (by omega) h2 ?_ x hx)
    unfold nd at h3
    split at h3
    · rwa [mark_far fun y hy => by have := insAt_in hw j y hy; omega] at h3
    · exact h3
theorem cl_down {S : List Tgt} (hw : wOk S = true) {n : Nat} : ∀ (j : Nat) {c : List Bool}, Cl S n j c → Cl S n 0 (down S j c)
  | 0, _, h => h
  | j + 1, _, h => cl_down hw j (cl_nd hw h)
theorem flags_cl {S : List Tgt} (hw : wOk S = true) (k : Nat) : Cl S S.length 0 (flags S k) :=
  cl_down hw (k + 1) fun i h1 h2 h3 => by
    have := hi_start S.length k i (by omega) (by rw [start_len]; exact h2)
    rw [this] at h3
    cases h3
theorem sub_down {S : List Tgt} {n : Nat} {c : List Bool} (hc : Cl S n 0 c) : ∀ (j : Nat) {d : List Bool}, j ≤ n → Sub n d c → Sub n (down S j d) c
  | 0, _, _, h => h
  | j + 1, d, hj, h => by
    refine sub_down hc j (by omega) ?_
    unfold nd
    split
    · rename_i hd
      exact sub_mark h (hc j (Nat.zero_le _) (by omega) (h j (by omega) hd))
    · exact h
theorem flags_self {S : List Tgt} (k : Nat) : (flags S k).getD k true = true := down_true _ (by unfold start; rw [getD_set, if_pos rfl])
/-- What one needs that is needed is needed. -/
theorem flags_sub {S : List Tgt} (hw : wOk S = true) {k m : Nat} (hm : m < S.length) (h : (flags S k).getD m true = true) : Sub S.length (flags S m) (flags S k) :=
  sub_down (flags_cl hw k) (m + 1) (by omega) fun q hq hd => by
    unfold start at hd
    rw [getD_set] at hd
    split at hd
    · rename_i e
      rw [e]
      exact h
    · rw [List.getD_eq_getElem?_getD, List.getElem?_replicate, if_pos hq] at hd
      cases hd
theorem needs_mem {S : List Tgt} {k x : Int} : x ∈ needsL S k ↔ (wOk S = true ∧ 0 ≤ k ∧ k < (S.length : Int)) ∧ ∃ m : Nat, x = (m : Int) ∧ m < S.length ∧ (flags S k.toNat).getD m true = true := by
  unfold needsL
  split
  · rename_i h
    exact Iff.intro (fun e => And.intro h ((plF_mem _ _ _).1 e)) (fun e => (plF_mem _ _ _).2 e.2)
  · rename_i h
    exact Iff.intro (fun e => nomatch e) (fun e => absurd e.1 h)
theorem needs_trans {S : List Tgt} {k x y : Int} (hx : x ∈ needsL S k) (hy : y ∈ needsL S x) : y ∈ needsL S k := by
  obtain ⟨h1, m, rfl, hm, hf⟩ := needs_mem.1 hx
  obtain ⟨h2, q, rfl, hq, hg⟩ := needs_mem.1 hy
  rw [Int.toNat_natCast] at hg
  exact needs_mem.2 ⟨h1, q, rfl, hq, flags_sub h1.1 hm hf q hq hg⟩
theorem needs_last {S : List Tgt} {k : Int} (h : needsL S k ≠ []) : ∃ X, needsL S k = X ++ [k] := by
  unfold needsL at h ⊢
  split
  · rename_i hc
    obtain ⟨hw, h0, h1⟩ := hc
    obtain ⟨n, rfl⟩ : ∃ n : Nat, k = (n : Int) := ⟨k.toNat, by omega⟩
    rw [Int.toNat_natCast, flags_cut hw (by omega)]
    exact ⟨plF (flags S n) n, by show plF _ n ++ _ = _; rw [if_pos (flags_self n)]⟩
  · rename_i hc
    rw [if_neg hc] at h
    exact absurd rfl h
end Wn
end Go.Proofs.Ytopplljilmjjgaa
