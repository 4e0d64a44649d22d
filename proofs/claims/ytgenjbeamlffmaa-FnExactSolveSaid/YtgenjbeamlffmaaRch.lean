/- Which picks are needed, told by induction: those of needs, and those that what is needed needs; the program's and the model's walk finds just these. Condition: at most 30 picks, 5 needs, 5 needs of a release. -/
import Derived.Test.YtgenjbeamlffmaaCpf
namespace Go.Proofs.Ytgenjbeamlffmaa
open Go.RowKit Go.Sort

namespace Rch
open Foot Copy Nup Cpu
theorem flag_set (c : List Bool) (j k : Nat) : (c.set j true).getD k true = if j = k then true else c.getD k true := by
  rw [List.getD_eq_getElem?_getD, List.getD_eq_getElem?_getD, List.getElem?_set]
  by_cases h : j = k
  · rw [if_pos h, if_pos h]
    split <;> rfl
  · rw [if_neg h, if_neg h]
/-- A pick that is needed. -/
inductive Up (S : List Rel) (N : List Nd) (C : List Pk) : Pk → Prop
  | own {n : Nd} {x : Pk} : n ∈ N → x ∈ C → x.1 = n.1 → Up S N C x
  | dep {y : Pk} {n : Nd} {x : Pk} : Up S N C y → n ∈ ndsOf S y → x ∈ C → x.1 = n.1 → Up S N C x
theorem Up.mem {S : List Rel} {N : List Nd} {C : List Pk} {x : Pk} (h : Up S N C x) : x ∈ C := by
  cases h with
  | own _ h _ => exact h
  | dep _ _ h _ => exact h
/-- More needs and more picks: not less is needed. -/
theorem Up.more {S : List Rel} {N N' : List Nd} {C C' : List Pk} (hN : ∀ n ∈ N, n ∈ N') (hC : ∀ x ∈ C, x ∈ C') {x : Pk} (h : Up S N C x) : Up S N' C' x := by
  induction h with
  | own h1 h2 h3 => exact .own (hN _ h1) (hC _ h2) h3
  | dep _ h2 h3 h4 ih => exact .dep ih h2 (hC _ h3) h4
/-- What is needed among picks is needed among those that are. -/
theorem Up.less {S : List Rel} {N : List Nd} {C C' : List Pk} (hC : ∀ x, Up S N C x → x ∈ C') {x : Pk} (h : Up S N C x) : Up S N C' x := by
  induction h with
  | own h1 h2 h3 => exact .own h1 (hC _ (.own h1 h2 h3)) h3
  | dep h1 h2 h3 h4 ih => exact .dep ih h2 (hC _ (.dep h1 h2 h3 h4)) h4
def By (S : List Rel) (N : List Nd) (C : List Pk) (q : Nd) : Prop := q ∈ N ∨ ∃ y, Up S N C y ∧ q ∈ ndsOf S y
theorem By.up {S : List Rel} {N : List Nd} {C : List Pk} {q : Nd} {x : Pk} (h : By S N C q) (hx : x ∈ C) (he : x.1 = q.1) : Up S N C x := by
  rcases h with h | ⟨y, h1, h2⟩
  · exact .own h hx he
  · exact .dep h1 h2 hx he
structure ClK (S : List Rel) (N : List Nd) (C : List Pk) (i : Nat) (st : St) : Prop where
  came : ∀ j x, C[j]? = some x → st.1.getD j true = true → ∀ q ∈ ndsOf S x, q ∈ st.2
  seen : ∀ k n, k < i → st.2[k]? = some n → ∀ j x, C[j]? = some x → x.1 = n.1 → st.1.getD j true = true
  first : ∀ q ∈ N, q ∈ st.2
  sound : ∀ j x, C[j]? = some x → st.1.getD j true = true → Up S N C x
  by' : ∀ q ∈ st.2, By S N C q
theorem ClK.hit {S : List Rel} {N : List Nd} {C : List Pk} {i : Nat} {st : St} {j : Nat} {x : Pk} (h : ClK S N C i st) (n : Nd) (hn : By S N C n) (hx : C[j]? = some x) (hi : i ≤ st.2.length) :
    ClK S N C i (hitK S n.1 st j x) ∧ (∀ k, st.1.getD k true = true → (hitK S n.1 st j x).1.getD k true = true) ∧ (x.1 = n.1 → (hitK S n.1 st j x).1.getD j true = true) := by
  unfold hitK
  by_cases hc : (!st.1.getD j true && decide (x.1 = n.1)) = true
  · rw [if_pos hc]
    rw [Bool.and_eq_true, decide_eq_true_eq] at hc
    have hup : Up S N C x := hn.up (List.mem_of_getElem? hx) hc.2
    have up : ∀ k, st.1.getD k true = true → (st.1.set j true).getD k true = true := fun k hk => by
      rw [flag_set]
      split
      · rfl
      · exact hk
    refine ⟨⟨fun j' x' hx' hf q hq => ?_, fun k m hk hm j' x' hx' hf => ?_, fun q hq => List.mem_append_left _ (h.first q hq), fun j' x' hx' hf => ?_, fun q hq => ?_⟩, up, fun _ => by rw [flag_set, if_pos rfl]⟩
    · by_cases hj : j = j'
      · subst hj
        rw [hx] at hx'
        injection hx' with hx'
        subst hx'
        exact List.mem_append_right _ hq
      · replace hf : (st.1.set j true).getD j' true = true := hf
        rw [flag_set, if_neg hj] at hf
        exact List.mem_append_left _ (h.came j' x' hx' hf q hq)
    · replace hm : (st.2 ++ ndsOf S x)[k]? = some m := hm
      rw [List.getElem?_append_left (by omega)] at hm
      exact up _ (h.seen k m hk hm j' x' hx' hf)
    · by_cases hj : j = j'
      · subst hj
        rw [hx] at hx'
        injection hx' with hx'
        subst hx'
        exact hup
      · replace hf : (st.1.set j true).getD j' true = true := hf
        rw [flag_set, if_neg hj] at hf
        exact h.sound j' x' hx' hf
    · rcases List.mem_append.1 hq with hq | hq
      · exact h.by' q hq
      · exact .inr ⟨x, hup, hq⟩
  · rw [if_neg hc]
    refine ⟨h, fun _ hk => hk, fun hf => ?_⟩
    rw [decide_eq_true hf, Bool.and_true] at hc
    simpa using hc
theorem ClK.pass {S : List Rel} {N : List Nd} {C : List Pk} {i : Nat} (n : Nd) (hn : By S N C n) : ∀ (t : List Pk) (j : Nat) (st : St), C.drop j = t → ClK S N C i st → i ≤ st.2.length → (∀ k x, k < j → C[k]? = some x → x.1 = n.1 → st.1.getD k true = true) →
    ClK S N C i (passK S n.1 j t st) ∧ ∀ k x, C[k]? = some x → x.1 = n.1 → (passK S n.1 j t st).1.getD k true = true
  | [], j, st, ht, h, hi, hk => ⟨h, fun k x hx hf => by
      have h1 : C.length ≤ j := by
        have := congrArg List.length ht
        rw [List.length_drop] at this
        simp only [List.length_nil] at this
        omega
      have h2 := (List.getElem?_eq_some_iff.1 hx).1
      exact hk k x (by omega) hx hf⟩
  | x :: t, j, st, ht, h, hi, hk => by
    have hx : C[j]? = some x := by
      have : (C.drop j)[0]? = some x := by rw [ht]; rfl
      simpa using this
    have ht' : C.drop (j + 1) = t := by
      have := congrArg (fun l => l.drop 1) ht
      simpa using this
    obtain ⟨c1, c2, c3⟩ := h.hit n hn hx hi
    obtain ⟨_, f2⟩ := hitK_front (S := S) (nm := n.1) (j := j) (x := x) hi
    exact ClK.pass n hn t (j + 1) (hitK S n.1 st j x) ht' c1 f2 (fun k y hkj hy hf => by
      by_cases he : k = j
      · subst he
        rw [hx] at hy
        injection hy with hy
        subst hy
        exact c3 hf
      · exact c2 k (hk k y (by omega) hy hf))
theorem passK_ok {S : List Rel} {N : List Nd} {C : List Pk} (hS : ∀ q ∈ S, q.2.2.2.length ≤ 5) (nm : Int) : ∀ (t : List Pk) (j : Nat) (st : St), OkK S N C st → OkK S N C (passK S nm j t st)
  | [], _, _, h => h
  | x :: t, j, _, h => passK_ok hS nm t (j + 1) _ (h.hit hS nm j x)
theorem passK_front {S : List Rel} {nm : Int} {i : Nat} : ∀ (t : List Pk) (j : Nat) (st : St), i ≤ st.2.length → (passK S nm j t st).2.take i = st.2.take i ∧ i ≤ (passK S nm j t st).2.length
  | [], _, _, h => ⟨rfl, h⟩
  | x :: t, j, st, h => by
    obtain ⟨f1, f2⟩ := hitK_front (S := S) (nm := nm) (j := j) (x := x) h
    obtain ⟨g1, g2⟩ := passK_front t (j + 1) (hitK S nm st j x) f2
    exact ⟨g1.trans f1, g2⟩
theorem runK_closed {S : List Rel} {N : List Nd} {C : List Pk} (hS : ∀ q ∈ S, q.2.2.2.length ≤ 5) (hN : N.length ≤ 5) (hC : C.length ≤ 30) : ∀ (f i : Nat) (st : St), OkK S N C st → ClK S N C i st → i ≤ st.2.length → 155 < i + f →
    OkK S N C (runK S C f i st) ∧ ClK S N C (runK S C f i st).2.length (runK S C f i st)
  | 0, i, st, ho, _, hi, hf => by
    have := ho.size
    omega
  | f + 1, i, st, ho, hc, hi, hf => by
    rcases hn : st.2[i]? with _ | n
    · have hl : st.2.length ≤ i := List.getElem?_eq_none_iff.1 hn
      obtain rfl : i = st.2.length := by omega
      rw [runK_end (Nat.le_refl _)]
      exact ⟨ho, hc⟩
    · have hl := (List.getElem?_eq_some_iff.1 hn).1
      rw [runK_step hn]
      have hb := hc.by' n (List.mem_of_getElem? hn)
      obtain ⟨p1, p4⟩ := hc.pass n hb C 0 st rfl hi (fun k x hk => by omega)
      obtain ⟨e1, e2⟩ := passK_front (S := S) (nm := n.1) (i := i + 1) C 0 st (by omega)
      have hni : (passK S n.1 0 C st).2[i]? = some n := by
        have h1 := congrArg (fun l => l[i]?) e1
        simp only [List.getElem?_take, if_pos (Nat.lt_succ_self i)] at h1
        rw [h1, hn]
      refine runK_closed hS hN hC f (i + 1) _ (passK_ok hS n.1 C 0 st ho) ⟨p1.came, fun k m hk hm => ?_, p1.first, p1.sound, p1.by'⟩ e2 (by omega)
      by_cases hki : k = i
      · subst hki
        rw [hni] at hm
        injection hm with hm
        subst hm
        exact p4
      · exact p1.seen k m (by omega) hm
theorem mem_came : ∀ {C : List Pk} {c : List Bool} {x : Pk}, c.length = C.length → (x ∈ cameL C c ↔ ∃ j, C[j]? = some x ∧ c.getD j true = true)
  | [], c, x, h => by simp [cameL]
  | y :: t, [], x, h => by simp at h
  | y :: t, b :: c, x, h => by
    have ih := mem_came (C := t) (c := c) (x := x) (by simpa using h)
    show x ∈ (if b = true then [y] else []) ++ cameL t c ↔ _
    rw [List.mem_append, ih]
    constructor
    · rintro (h1 | ⟨j, h1, h2⟩)
      · split at h1
        · rename_i hb
          exact ⟨0, by simpa using (List.mem_singleton.1 h1).symm, by simpa using hb⟩
        · simp at h1
      · exact ⟨j + 1, by simpa using h1, by simpa using h2⟩
    · rintro ⟨j, h1, h2⟩
      cases j with
      | zero =>
        left
        have hb : b = true := by simpa using h2
        have hy : y = x := by simpa using h1
        rw [if_pos hb, hy]
        exact List.mem_singleton.2 rfl
      | succ j => exact .inr ⟨j, by simpa using h1, by simpa using h2⟩
/-- What the walk finds is what is needed. -/
theorem came_up {S : List Rel} {N : List Nd} {C : List Pk} (hS : ∀ q ∈ S, q.2.2.2.length ≤ 5) (hN : N.length ≤ 5) (hC : C.length ≤ 30) (x : Pk) : x ∈ cameL C (endK S N C).1 ↔ Up S N C x := by
  have hc : ClK S N C 0 (startK C N) := by
    have hno : ∀ j (y : Pk), C[j]? = some y → (startK C N).1.getD j true = true → False := fun j y hy hf => by
      have hj := (List.getElem?_eq_some_iff.1 hy).1
      replace hf : (List.replicate C.length false).getD j true = true := hf
      rw [List.getD_eq_getElem?_getD, List.getElem?_replicate, if_pos hj] at hf
      exact absurd hf (by decide)
    exact ⟨fun j y hy hf => (hno j y hy hf).elim, fun k m hk => by omega, fun q hq => hq, fun j y hy hf => (hno j y hy hf).elim, fun q hq => .inl hq⟩
  obtain ⟨ho, h2⟩ := runK_closed hS hN hC 200 0 (startK C N) OkK.start hc (Nat.zero_le _) (by omega)
  have hrun : runK S C 200 0 (startK C N) = endK S N C := rfl
  rw [hrun] at ho h2
  rw [mem_came ho.flags]
  constructor
  · rintro ⟨j, h1, h3⟩
    exact h2.sound j x h1 h3
  · intro h
    have fl : ∀ {q : Nd} {z : Pk}, q ∈ (endK S N C).2 → z ∈ C → z.1 = q.1 → ∃ j, C[j]? = some z ∧ (endK S N C).1.getD j true = true := fun {q z} hq hz he => by
      obtain ⟨k, hk, rfl⟩ := List.getElem_of_mem hq
      obtain ⟨j, hj, rfl⟩ := List.getElem_of_mem hz
      exact ⟨j, List.getElem?_eq_getElem hj, h2.seen k _ hk (List.getElem?_eq_getElem hk) j _ (List.getElem?_eq_getElem hj) he⟩
    induction h with
    | own h1 h3 h4 => exact fl (h2.first _ h1) h3 h4
    | dep _ h3 h4 h5 ih =>
      obtain ⟨j, h6, h7⟩ := ih
      exact fl (h2.came j _ h6 h7 _ h3) h4 h5
end Rch
end Go.Proofs.Ytgenjbeamlffmaa
