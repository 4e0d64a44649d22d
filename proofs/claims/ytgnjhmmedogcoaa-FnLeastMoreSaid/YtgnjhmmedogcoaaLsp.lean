/- Least versions, as plain facts: the place that a need asks for, what comes up for needs by asking again and again, and the newest versions of what comes up. No condition. -/
import Derived.Test.YtgnjhmmedogcoaaNms
namespace Go.Proofs.Ytgnjhmmedogcoaa
open Go.RowKit Go.Sort

namespace Lst
open Nup
abbrev rkv (v : Int × Int × Int × Int) : Int := vRank v.1 v.2.1 v.2.2.1 v.2.2.2
/-- Whether a need of a name from a rank on asks for a release. -/
def asks (n lo : Int) (q : Rel) : Bool := decide (q.1 = n) && (!q.2.2.1 && decide (lo ≤ vRank q.2.1.1 q.2.1.2.1 q.2.1.2.2.1 q.2.1.2.2.2))
def askFrom (n lo : Int) : Nat → List Rel → Int
  | _, [] => -1
  | k, q :: t => if asks n lo q = true then (k : Int) else askFrom n lo (k + 1) t
def askAt (S : List Rel) (n : Int) (L : Sps) : Int := match L with
  | [] => -1
  | s :: _ => askFrom n s.1 0 S
def leastOf (S : List Rel) (n : Int) (L : Sps) : Int := if (shOk S && ndOk [(n, L)]) = true then askAt S n L else -1
theorem askFrom_step {S : List Rel} {k : Nat} {q : Rel} (h : S[k]? = some q) (n lo : Int) : askFrom n lo k (S.drop k) = if asks n lo q = true then (k : Int) else askFrom n lo (k + 1) (S.drop (k + 1)) := by
  have hk : k < S.length := (List.getElem?_eq_some_iff.1 h).1
  rw [List.drop_eq_getElem_cons hk, (List.getElem?_eq_some_iff.1 h).2]
  rfl
theorem askFrom_at (n lo : Int) : ∀ (t : List Rel) (k : Nat), (askFrom n lo k t = -1 ∧ ∀ q ∈ t, asks n lo q = false) ∨
    ∃ m x, askFrom n lo k t = ((k + m : Nat) : Int) ∧ t[m]? = some x ∧ asks n lo x = true ∧ ∀ j y, j < m → t[j]? = some y → asks n lo y = false
  | [], k => .inl ⟨rfl, by simp⟩
  | q :: t, k => by
    unfold askFrom
    rcases hq : asks n lo q
    · rw [if_neg (by simp)]
      rcases askFrom_at n lo t (k + 1) with ⟨h1, h2⟩ | ⟨m, x, h1, h2, h3, h4⟩
      · refine .inl ⟨h1, fun y hy => ?_⟩
        rcases List.mem_cons.1 hy with rfl | hy
        · exact hq
        · exact h2 y hy
      · refine .inr ⟨m + 1, x, by rw [h1]; congr 1; omega, by simpa using h2, h3, fun j y hj hy => ?_⟩
        cases j with
        | zero =>
          obtain rfl : q = y := by simpa using hy
          exact hq
        | succ j => exact h4 j y (by omega) (by simpa using hy)
    · rw [if_pos rfl]
      exact .inr ⟨0, q, by simp, rfl, hq, fun j y hj => absurd hj (by omega)⟩
theorem askAt_at {S : List Rel} (n : Int) (L : Sps) : askAt S n L = -1 ∨ ∃ (m : Nat) (x : Rel) (s : Int × Int) (t : Sps), L = s :: t ∧ askAt S n L = (m : Int) ∧ S[m]? = some x ∧ asks n s.1 x = true ∧ ∀ j y, j < m → S[j]? = some y → asks n s.1 y = false := by
  cases L with
  | nil => exact .inl rfl
  | cons s t =>
    rcases askFrom_at n s.1 S 0 with ⟨h, _⟩ | ⟨m, x, h1, h2, h3, h4⟩
    · exact .inl h
    · exact .inr ⟨m, x, s, t, rfl, by rw [show askAt S n (s :: t) = askFrom n s.1 0 S from rfl, h1, Nat.zero_add], h2, h3, h4⟩
theorem askAt_lt {S : List Rel} {n : Int} {L : Sps} (h : ¬ askAt S n L < 0) : ∃ m : Nat, askAt S n L = (m : Int) ∧ m < S.length := by
  rcases askAt_at (S := S) n L with e | ⟨m, x, _, _, _, h1, h2, _⟩
  · rw [e] at h; exact absurd (by decide) h
  · exact ⟨m, h1, (List.getElem?_eq_some_iff.1 h2).1⟩
theorem leastOf_ask {S : List Rel} {q : Nd} (hS : shOk S = true) (hq : ndOk [q] = true) : leastOf S q.1 q.2 = askAt S q.1 q.2 := by
  unfold leastOf
  rw [hS, show (q.1, q.2) = q from rfl, hq]
  rfl

/-- What comes up: flags of places, and the row of needs; nothing as soon as one asks for none. -/
def vis (S : List Rel) : Nat → Nat → St → Option St
  | 0, _, st => some st
  | f + 1, i, st => match st.2[i]? with
    | none => some st
    | some n => if askAt S n.1 n.2 < 0 then none else vis S f (i + 1) (hitP S st (askAt S n.1 n.2))
def visL (S : List Rel) (N : List Nd) : Option St := vis S 200 0 (Nup.start S N)
theorem vis_step {S : List Rel} {f i : Nat} {st : St} {n : Nd} (h : st.2[i]? = some n) : vis S (f + 1) i st = if askAt S n.1 n.2 < 0 then none else vis S f (i + 1) (hitP S st (askAt S n.1 n.2)) := by
  show (match st.2[i]? with | none => some st | some n => if askAt S n.1 n.2 < 0 then none else vis S f (i + 1) (hitP S st (askAt S n.1 n.2))) = _
  rw [h]
theorem vis_end {S : List Rel} {f i : Nat} {st : St} (h : st.2.length ≤ i) : vis S f i st = some st := by
  cases f with
  | zero => rfl
  | succ f =>
    show (match st.2[i]? with | none => some st | some n => if askAt S n.1 n.2 < 0 then none else vis S f (i + 1) (hitP S st (askAt S n.1 n.2))) = _
    rw [List.getElem?_eq_none h]
/-- The places that have a flag, below a number. -/
def plTo (c : List Bool) : Nat → List Int
  | 0 => []
  | k + 1 => plTo c k ++ (if c.getD k true = true then [(k : Int)] else [])
theorem plTo_len (c : List Bool) : ∀ k, (plTo c k).length ≤ k
  | 0 => Nat.le_refl _
  | k + 1 => by
    have := plTo_len c k
    unfold plTo
    split <;> simp <;> omega
theorem plTo_mem (c : List Bool) : ∀ (k : Nat) (z : Int), z ∈ plTo c k ↔ ∃ m : Nat, z = (m : Int) ∧ m < k ∧ c.getD m true = true
  | 0, z => by simp [plTo]
  | k + 1, z => by
    unfold plTo
    rw [List.mem_append, plTo_mem c k z]
    constructor
    · rintro (⟨m, h1, h2, h3⟩ | h)
      · exact ⟨m, h1, by omega, h3⟩
      · split at h
        · rename_i hc
          exact ⟨k, by simpa using h, by omega, hc⟩
        · simp at h
    · rintro ⟨m, h1, h2, h3⟩
      by_cases hm : m = k
      · subst hm
        right
        rw [if_pos h3, h1]
        exact List.mem_singleton.2 rfl
      · exact .inl ⟨m, h1, by omega, h3⟩
def lvL (S : List Rel) (N : List Nd) : List Int := if (shOk S && ndOk N) = true then (match visL S N with | none => [] | some st => plTo st.1 S.length) else []
def lvB (S : List Rel) (N : List Nd) : Bool := shOk S && ndOk N && (visL S N).isSome
theorem lvL_len (S : List Rel) (N : List Nd) : (lvL S N).length ≤ S.length := by
  unfold lvL
  split
  · split
    · simp
    · exact plTo_len _ _
  · simp
theorem lvL_no {S : List Rel} {N : List Nd} (h : lvB S N = false) : lvL S N = [] := by
  unfold lvL
  unfold lvB at h
  split
  · rename_i hc
    rw [hc, Bool.true_and] at h
    rcases hv : visL S N with _ | st
    · rfl
    · rw [hv] at h; simp at h
  · rfl
theorem lvL_small {S : List Rel} {N : List Nd} : (lvL S N).length ≤ 30 := by
  rcases hs : shOk S
  · unfold lvL; rw [hs]; simp
  · exact Nat.le_trans (lvL_len S N) (sh_len hs)

/-- What comes up, told by rules. -/
inductive Reach (S : List Rel) (N : List Nd) : Nat → Prop
  | first (q : Nd) (j : Nat) : q ∈ N → askAt S q.1 q.2 = (j : Int) → Reach S N j
  | next (i : Nat) (x : Rel) (q : Nd) (j : Nat) : Reach S N i → S[i]? = some x → q ∈ x.2.2.2 → askAt S q.1 q.2 = (j : Int) → Reach S N j
/-- A need that comes up. -/
def Up (S : List Rel) (N : List Nd) (q : Nd) : Prop := q ∈ N ∨ ∃ i x, Reach S N i ∧ S[i]? = some x ∧ q ∈ x.2.2.2
theorem Up.reach {S : List Rel} {N : List Nd} {q : Nd} {j : Nat} (h : Up S N q) (hj : askAt S q.1 q.2 = (j : Int)) : Reach S N j := by
  rcases h with h | ⟨i, x, h1, h2, h3⟩
  · exact .first q j h hj
  · exact .next i x q j h1 h2 h3 hj
structure VOk (S : List Rel) (N : List Nd) (i : Nat) (st : St) : Prop where
  ok : Ok S N st
  sound : ∀ j, j < S.length → st.1.getD j true = true → Reach S N j
  up : ∀ q ∈ st.2, Up S N q
  first : ∀ q ∈ N, q ∈ st.2
  came : ∀ j x, S[j]? = some x → st.1.getD j true = true → ∀ q ∈ x.2.2.2, q ∈ st.2
  seen : ∀ k n, k < i → st.2[k]? = some n → ∃ m : Nat, askAt S n.1 n.2 = (m : Int) ∧ m < S.length ∧ st.1.getD m true = true
theorem getD_set' (c : List Bool) (j k : Nat) : (c.set j true).getD k true = if j = k then true else c.getD k true := by
  rw [List.getD_eq_getElem?_getD, List.getD_eq_getElem?_getD, List.getElem?_set]
  by_cases h : j = k
  · rw [if_pos h, if_pos h]
    split <;> rfl
  · rw [if_neg h, if_neg h]
theorem VOk.start {S : List Rel} {N : List Nd} (h : ∀ q ∈ S, q.2.2.2.length ≤ 5) : VOk S N 0 (Nup.start S N) := by
  have hf : ∀ j, j < S.length → ¬ (Nup.start S N).1.getD j true = true := fun j hj => by
    show ¬ (List.replicate S.length false).getD j true = true
    rw [List.getD_eq_getElem?_getD, List.getElem?_replicate, if_pos hj]
    decide
  exact ⟨Ok.start h, fun j hj e => absurd e (hf j hj), fun q hq => .inl hq, fun q hq => hq, fun j x hx e => absurd e (hf j (List.getElem?_eq_some_iff.1 hx).1), fun k n hk => absurd hk (by omega)⟩
theorem VOk.step {S : List Rel} {N : List Nd} {i m : Nat} {st : St} {n : Nd} (h : VOk S N i st) (hn : st.2[i]? = some n) (hm : askAt S n.1 n.2 = (m : Int)) (hl : m < S.length) : VOk S N (i + 1) (hitP S st (m : Int)) := by
  have hx : S[m]? = some S[m] := List.getElem?_eq_getElem hl
  have hi : i < st.2.length := (List.getElem?_eq_some_iff.1 hn).1
  have hR : Reach S N m := (h.up n (List.mem_of_getElem? hn)).reach hm
  have ho := hitP_ok h.ok hx
  rw [hitP_at hx] at ho ⊢
  rcases hc : st.1.getD m true
  · rw [hc] at ho
    rw [if_pos (by decide)] at ho ⊢
    refine ⟨ho, fun j hj e => ?_, fun q hq => ?_, fun q hq => List.mem_append_left _ (h.first q hq), fun j x hj e q hq => ?_, fun k z hk hz => ?_⟩
    · replace e : (st.1.set m true).getD j true = true := e
      rw [getD_set'] at e
      by_cases hjm : m = j
      · subst hjm; exact hR
      · rw [if_neg hjm] at e; exact h.sound j hj e
    · rcases List.mem_append.1 hq with hq | hq
      · exact h.up q hq
      · exact .inr ⟨m, _, hR, hx, hq⟩
    · replace e : (st.1.set m true).getD j true = true := e
      rw [getD_set'] at e
      by_cases hjm : m = j
      · subst hjm
        rw [hx] at hj
        injection hj with hj
        subst hj
        exact List.mem_append_right _ hq
      · rw [if_neg hjm] at e
        exact List.mem_append_left _ (h.came j x hj e q hq)
    · replace hz : (st.2 ++ S[m].2.2.2)[k]? = some z := hz
      rw [List.getElem?_append_left (by omega)] at hz
      by_cases hk' : k = i
      · subst hk'
        rw [hn] at hz
        injection hz with hz
        subst hz
        exact ⟨m, hm, hl, by show (st.1.set m true).getD m true = true; rw [getD_set', if_pos rfl]⟩
      · obtain ⟨j, h1, h2, h3⟩ := h.seen k z (by omega) hz
        refine ⟨j, h1, h2, ?_⟩
        show (st.1.set m true).getD j true = true
        rw [getD_set', h3]
        split <;> rfl
  · rw [if_neg (by decide)]
    refine ⟨h.ok, h.sound, h.up, h.first, h.came, fun k z hk hz => ?_⟩
    by_cases hk' : k = i
    · subst hk'
      rw [hn] at hz
      injection hz with hz
      subst hz
      exact ⟨m, hm, hl, hc⟩
    · exact h.seen k z (by omega) hz
theorem vis_spec {S : List Rel} {N : List Nd} (hS : S.length ≤ 30) (hN : N.length ≤ 5) : ∀ (f i : Nat) (st : St), VOk S N i st → i ≤ st.2.length → 155 < i + f →
    (∃ s2, vis S f i st = some s2 ∧ VOk S N s2.2.length s2) ∨ (vis S f i st = none ∧ ∃ q, Up S N q ∧ askAt S q.1 q.2 = -1)
  | 0, i, st, h, hi, hf => by
    have := h.ok.le hS hN
    omega
  | f + 1, i, st, h, hi, hf => by
    rcases hn : st.2[i]? with _ | n
    · have hl : st.2.length ≤ i := List.getElem?_eq_none_iff.1 hn
      obtain rfl : i = st.2.length := by omega
      exact .inl ⟨st, vis_end (Nat.le_refl _), h⟩
    · rw [vis_step hn]
      by_cases ha : askAt S n.1 n.2 < 0
      · rw [if_pos ha]
        refine .inr ⟨rfl, n, h.up n (List.mem_of_getElem? hn), ?_⟩
        rcases askAt_at (S := S) n.1 n.2 with e | ⟨m, _, _, _, _, e, _⟩
        · exact e
        · omega
      · rw [if_neg ha]
        obtain ⟨m, hm, hl⟩ := askAt_lt ha
        rw [hm]
        have hx : S[m]? = some S[m] := List.getElem?_eq_getElem hl
        exact vis_spec hS hN f (i + 1) _ (h.step hn hm hl) (hitP_front hx (by have := (List.getElem?_eq_some_iff.1 hn).1; omega)).2 (by omega)
/-- The flags are what comes up; or a need that comes up asks for none. -/
theorem visL_spec {S : List Rel} {N : List Nd} (hS : shOk S = true) (hN : ndOk N = true) :
    (∃ st, visL S N = some st ∧ st.1.length = S.length ∧ (∀ j, j < S.length → (st.1.getD j true = true ↔ Reach S N j)) ∧ ∀ q, Up S N q → ∃ m : Nat, askAt S q.1 q.2 = (m : Int) ∧ m < S.length) ∨ (visL S N = none ∧ ∃ q, Up S N q ∧ askAt S q.1 q.2 = -1) := by
  have h5 : ∀ q ∈ S, q.2.2.2.length ≤ 5 := fun q hq => nd_len (sh_needs hS q hq)
  rcases vis_spec (sh_len hS) (nd_len hN) 200 0 (Nup.start S N) (VOk.start h5) (Nat.zero_le _) (by omega) with ⟨st, h1, h2⟩ | h
  · refine .inl ⟨st, h1, h2.ok.flags, ?_⟩
    have hask : ∀ q ∈ st.2, ∃ m : Nat, askAt S q.1 q.2 = (m : Int) ∧ m < S.length ∧ st.1.getD m true = true := fun q hq => by
      obtain ⟨k, hk, rfl⟩ := List.getElem_of_mem hq
      exact h2.seen k _ hk (List.getElem?_eq_getElem hk)
    have hr : ∀ j, Reach S N j → j < S.length ∧ st.1.getD j true = true := fun j h => by
      induction h with
      | first q j hq hj =>
        obtain ⟨m, e1, e2, e3⟩ := hask q (h2.first q hq)
        obtain rfl : m = j := by omega
        exact ⟨e2, e3⟩
      | next i x q j _ hx hq hj ih =>
        obtain ⟨m, e1, e2, e3⟩ := hask q (h2.came i x hx ih.2 q hq)
        obtain rfl : m = j := by omega
        exact ⟨e2, e3⟩
    refine ⟨fun j hj => ⟨h2.sound j hj, fun h => (hr j h).2⟩, fun q hq => ?_⟩
    rcases hq with hq | ⟨i, x, h3, h4, h5⟩
    · obtain ⟨m, e1, e2, _⟩ := hask q (h2.first q hq)
      exact ⟨m, e1, e2⟩
    · obtain ⟨m, e1, e2, _⟩ := hask q (h2.came i x h4 (hr i h3).2 q h5)
      exact ⟨m, e1, e2⟩
  · exact .inr h
/-- What comes up for needs fine on a shelf: the places, told by rules. -/
theorem lv_yes {S : List Rel} {N : List Nd} (h : lvB S N = true) : shOk S = true ∧ ndOk N = true ∧ (∀ z, z ∈ lvL S N ↔ ∃ m : Nat, z = (m : Int) ∧ m < S.length ∧ Reach S N m) ∧ ∀ q, Up S N q → ∃ m : Nat, askAt S q.1 q.2 = (m : Int) ∧ m < S.length ∧ Reach S N m := by
  have h' := h
  unfold lvB at h'
  simp only [Bool.and_eq_true] at h'
  obtain ⟨⟨hS, hN⟩, hv⟩ := h'
  rcases visL_spec hS hN with ⟨st, e, _, h2, h3⟩ | ⟨e, _⟩
  · refine ⟨hS, hN, fun z => ?_, fun q hq => ?_⟩
    · have : lvL S N = plTo st.1 S.length := by unfold lvL; rw [hS, hN, e]; rfl
      rw [this, plTo_mem]
      constructor
      · rintro ⟨m, h4, h5, h6⟩
        exact ⟨m, h4, h5, (h2 m h5).1 h6⟩
      · rintro ⟨m, h4, h5, h6⟩
        exact ⟨m, h4, h5, (h2 m h5).2 h6⟩
    · obtain ⟨m, h4, h5⟩ := h3 q hq
      exact ⟨m, h4, h5, hq.reach h4⟩
  · rw [e] at hv; cases hv
theorem lv_no {S : List Rel} {N : List Nd} (hS : shOk S = true) (hN : ndOk N = true) (h : lvB S N = false) : ∃ q, Up S N q ∧ askAt S q.1 q.2 = -1 := by
  rcases visL_spec hS hN with ⟨st, e, _⟩ | ⟨_, h⟩
  · unfold lvB at h; rw [hS, hN, e] at h; cases h
  · exact h
end Lst
end Go.Proofs.Ytgnjhmmedogcoaa
