/- What comes up beside needs is closed, as plain facts: each need stands in it, and with each need all that the releases bring that fit it; so do their names. No condition. -/
import Derived.Test.YtmhamoeibkpnpaaNms
namespace Go.Proofs.Ytmhamoeibkpnpaa
open Go.RowKit Go.Sort

namespace Nup
theorem getD_set (c : List Bool) (j k : Nat) : (c.set j true).getD k true = if j = k then true else c.getD k true := by
  rw [List.getD_eq_getElem?_getD, List.getD_eq_getElem?_getD, List.getElem?_set]
  by_cases h : j = k
  · rw [if_pos h, if_pos h]
    split <;> rfl
  · rw [if_neg h, if_neg h]
/-- The flag of a place stands only if what it brings has come; the needs before a number have brought what fits them. -/
structure Cl (S : List Rel) (N : List Nd) (i : Nat) (st : St) : Prop where
  came : ∀ j x, S[j]? = some x → st.1.getD j true = true → ∀ q ∈ x.2.2.2, q ∈ st.2
  seen : ∀ k n, k < i → st.2[k]? = some n → ∀ j x, S[j]? = some x → fitB n.1 n.2 x = true → st.1.getD j true = true
  first : ∀ q ∈ N, q ∈ st.2
theorem Cl.hit {S : List Rel} {N : List Nd} {i : Nat} {st : St} {j : Nat} {x : Rel} (h : Cl S N i st) (n : Nd) (hx : S[j]? = some x) (hi : i ≤ st.2.length) :
    Cl S N i (hit n st j x) ∧ (∀ k, st.1.getD k true = true → (hit n st j x).1.getD k true = true) ∧ (fitB n.1 n.2 x = true → (hit n st j x).1.getD j true = true) := by
  unfold Nup.hit
  by_cases hc : (!st.1.getD j true && fitB n.1 n.2 x) = true
  · rw [if_pos hc]
    have up : ∀ k, st.1.getD k true = true → (st.1.set j true).getD k true = true := fun k hk => by
      rw [getD_set]
      split
      · rfl
      · exact hk
    refine ⟨⟨fun j' x' hx' hf q hq => ?_, fun k m hk hm j' x' hx' hf => ?_, fun q hq => List.mem_append_left _ (h.first q hq)⟩, up, fun _ => by rw [getD_set, if_pos rfl]⟩
    · by_cases hj : j = j'
      · subst hj
        rw [hx] at hx'
        injection hx' with hx'
        subst hx'
        exact List.mem_append_right _ hq
      · replace hf : (st.1.set j true).getD j' true = true := hf
        rw [getD_set, if_neg hj] at hf
        exact List.mem_append_left _ (h.came j' x' hx' hf q hq)
    · replace hm : (st.2 ++ x.2.2.2)[k]? = some m := hm
      rw [List.getElem?_append_left (by omega)] at hm
      exact up _ (h.seen k m hk hm j' x' hx' hf)
  · rw [if_neg hc]
    refine ⟨h, fun _ hk => hk, fun hf => ?_⟩
    rw [hf, Bool.and_true] at hc
    simpa using hc
theorem Cl.pass {S : List Rel} {N : List Nd} {i : Nat} (n : Nd) : ∀ (t : List Rel) (j : Nat) (st : St), S.drop j = t → Cl S N i st → i ≤ st.2.length → (∀ k x, k < j → S[k]? = some x → fitB n.1 n.2 x = true → st.1.getD k true = true) →
    Cl S N i (pass n j t st) ∧ (pass n j t st).2.take i = st.2.take i ∧ i ≤ (pass n j t st).2.length ∧ ∀ k x, S[k]? = some x → fitB n.1 n.2 x = true → (pass n j t st).1.getD k true = true
  | [], j, st, ht, h, hi, hk => ⟨h, rfl, hi, fun k x hx hf => by
      have h1 : S.length ≤ j := by
        have := congrArg List.length ht
        rw [List.length_drop] at this
        simp only [List.length_nil] at this
        omega
      have h2 := (List.getElem?_eq_some_iff.1 hx).1
      exact hk k x (by omega) hx hf⟩
  | x :: t, j, st, ht, h, hi, hk => by
    have hx : S[j]? = some x := by
      have : (S.drop j)[0]? = some x := by rw [ht]; rfl
      simpa using this
    have ht' : S.drop (j + 1) = t := by
      have := congrArg (fun l => l.drop 1) ht
      simpa using this
    obtain ⟨c1, c2, c3⟩ := h.hit n hx hi
    obtain ⟨f1, f2⟩ := hit_front (n := n) (j := j) (x := x) hi
    obtain ⟨p1, p2, p3, p4⟩ := Cl.pass n t (j + 1) (Nup.hit n st j x) ht' c1 f2 (fun k y hkj hy hf => by
      by_cases he : k = j
      · subst he
        rw [hx] at hy
        injection hy with hy
        subst hy
        exact c3 hf
      · exact c2 k (hk k y (by omega) hy hf))
    exact ⟨p1, p2.trans f1, p3, p4⟩
theorem Ok.pass {S : List Rel} {N : List Nd} (n : Nd) : ∀ (t : List Rel) (j : Nat) (st : St), S.drop j = t → Ok S N st → Ok S N (pass n j t st)
  | [], _, _, _, h => h
  | x :: t, j, st, ht, h => by
    have hx : S[j]? = some x := by
      have : (S.drop j)[0]? = some x := by rw [ht]; rfl
      simpa using this
    have ht' : S.drop (j + 1) = t := by
      have := congrArg (fun l => l.drop 1) ht
      simpa using this
    exact Ok.pass n t (j + 1) _ ht' (h.hit n hx)
theorem run_closed {S : List Rel} {N : List Nd} (hS : S.length ≤ 30) (hN : N.length ≤ 5) : ∀ (f i : Nat) (st : St), Ok S N st → Cl S N i st → i ≤ st.2.length → 155 < i + f → ∃ s2 : St, run S f i st = s2.2 ∧ Cl S N s2.2.length s2
  | 0, i, st, ho, _, hi, hf => by
    have := ho.le hS hN
    omega
  | f + 1, i, st, ho, hc, hi, hf => by
    rcases hn : st.2[i]? with _ | n
    · have hl : st.2.length ≤ i := List.getElem?_eq_none_iff.1 hn
      obtain rfl : i = st.2.length := by omega
      exact ⟨st, run_end (Nat.le_refl _), hc⟩
    · have hl := (List.getElem?_eq_some_iff.1 hn).1
      rw [run_step hn]
      obtain ⟨p1, p2, p3, p4⟩ := hc.pass n S 0 st rfl hi (fun k x hk => by omega)
      obtain ⟨_, q2, q3, _⟩ := (show Cl S N 0 st from ⟨hc.came, fun k m hk => by omega, hc.first⟩).pass n S 0 st rfl (Nat.zero_le _) (fun k x hk => by omega)
      have hfront : ∀ (t : List Rel) (j : Nat) (s : St), i + 1 ≤ s.2.length → (Nup.pass n j t s).2.take (i + 1) = s.2.take (i + 1) ∧ i + 1 ≤ (Nup.pass n j t s).2.length := by
        intro t
        induction t with
        | nil => exact fun j s hs => ⟨rfl, hs⟩
        | cons x t ih =>
          intro j s hs
          obtain ⟨f1, f2⟩ := hit_front (n := n) (j := j) (x := x) hs
          obtain ⟨g1, g2⟩ := ih (j + 1) (Nup.hit n s j x) f2
          exact ⟨g1.trans f1, g2⟩
      obtain ⟨e1, e2⟩ := hfront S 0 st (by omega)
      have hni : (Nup.pass n 0 S st).2[i]? = some n := by
        have h1 := congrArg (fun l => l[i]?) e1
        simp only [List.getElem?_take, if_pos (Nat.lt_succ_self i)] at h1
        rw [h1, hn]
      refine run_closed hS hN f (i + 1) _ (Ok.pass n S 0 st rfl ho) ⟨p1.came, fun k m hk hm => ?_, p1.first⟩ e2 (by omega)
      by_cases hki : k = i
      · subst hki
        rw [hni] at hm
        injection hm with hm
        subst hm
        exact p4
      · exact p1.seen k m (by omega) hm
theorem up_closed {S : List Rel} {N : List Nd} (hS : shOk S = true) (hN : ndOk N = true) :
    (∀ q ∈ N, q ∈ upL S N) ∧ ∀ n ∈ upL S N, ∀ x ∈ S, fitB n.1 n.2 x = true → ∀ q ∈ x.2.2.2, q ∈ upL S N := by
  have h5 : ∀ q ∈ S, q.2.2.2.length ≤ 5 := fun q hq => nd_len (sh_needs hS q hq)
  have hc : Cl S N 0 (start S N) := ⟨fun j x hx hf => by
    have hj := (List.getElem?_eq_some_iff.1 hx).1
    replace hf : (List.replicate S.length false).getD j true = true := hf
    rw [List.getD_eq_getElem?_getD, List.getElem?_replicate, if_pos hj] at hf
    exact absurd hf (by decide), fun k m hk => by omega, fun q hq => hq⟩
  obtain ⟨s2, he, h2⟩ := run_closed (sh_len hS) (nd_len hN) 200 0 (start S N) (Ok.start h5) hc (Nat.zero_le _) (by omega)
  have hu : upL S N = s2.2 := he
  rw [hu]
  refine ⟨h2.first, fun n hn x hx hf q hq => ?_⟩
  obtain ⟨k, hk, rfl⟩ := List.getElem_of_mem hn
  obtain ⟨j, hj, rfl⟩ := List.getElem_of_mem hx
  exact h2.came j _ (List.getElem?_eq_getElem hj) (h2.seen k _ hk (List.getElem?_eq_getElem hk) j _ (List.getElem?_eq_getElem hj) hf) q hq
theorem nm_mem {U : List Nd} {q : Nd} (hq : q ∈ U) (h0 : 0 ≤ q.1) : ∀ k : Nat, q.1 < (k : Int) → q.1 ∈ nmTo U k
  | 0, h => by omega
  | k + 1, h => by
    unfold nmTo
    by_cases he : q.1 = (k : Int)
    · have hn : hasName (k : Int) U = true := List.any_eq_true.2 ⟨q, hq, decide_eq_true he⟩
      rw [if_pos hn, he]
      exact List.mem_append_right _ (List.mem_singleton.2 rfl)
    · exact List.mem_append_left _ (nm_mem hq h0 k (by omega))
theorem fit_at (n : Int) (L : Sps) {S : List Rel} : ∀ (t : List Rel) (j : Nat), S.drop j = t → ∀ z ∈ fitFrom n L j t, ∃ m : Nat, ∃ h : m < S.length, z = (m : Int) ∧ fitB n L S[m] = true
  | [], _, _, z, hz => by simp [fitFrom] at hz
  | x :: t, j, ht, z, hz => by
    have hx : S[j]? = some x := by
      have : (S.drop j)[0]? = some x := by rw [ht]; rfl
      simpa using this
    have ht' : S.drop (j + 1) = t := by
      have := congrArg (fun l => l.drop 1) ht
      simpa using this
    unfold fitFrom at hz
    rcases List.mem_append.1 hz with hz | hz
    · by_cases hf : fitB n L x = true
      · rw [if_pos hf] at hz
        obtain ⟨hj, he⟩ := List.getElem?_eq_some_iff.1 hx
        exact ⟨j, hj, List.mem_singleton.1 hz, by rw [he]; exact hf⟩
      · rw [if_neg hf] at hz
        simp at hz
    · exact fit_at n L t (j + 1) ht' z hz
theorem sn_closed {S : List Rel} {N : List Nd} (hS : shOk S = true) (hN : ndOk N = true) :
    (∀ q ∈ N, q.1 ∈ snL S N) ∧ ∀ n ∈ N, ∀ z ∈ shFits S n.1 n.2, ∃ m : Nat, ∃ h : m < S.length, z = (m : Int) ∧ ∀ q ∈ S[m].2.2.2, q.1 ∈ snL S N := by
  obtain ⟨h1, h2⟩ := up_closed hS hN
  have he : snL S N = nmTo (upL S N) 8 := by unfold snL; rw [hS, hN]; rfl
  rw [he]
  refine ⟨fun q hq => ?_, fun n hn z hz => ?_⟩
  · obtain ⟨a, b, _⟩ := nd_one hN q hq
    exact nm_mem (h1 q hq) a 8 (by omega)
  · unfold shFits at hz
    split at hz
    · obtain ⟨m, hm, hzm, hf⟩ := fit_at n.1 n.2 S 0 rfl z hz
      refine ⟨m, hm, hzm, fun q hq => ?_⟩
      obtain ⟨a, b, _⟩ := nd_one (sh_needs hS _ (List.getElem_mem hm)) q hq
      exact nm_mem (h2 n (h1 n hn) _ (List.getElem_mem hm) hf q hq) a 8 (by omega)
    · simp at hz
end Nup
end Go.Proofs.Ytmhamoeibkpnpaa
