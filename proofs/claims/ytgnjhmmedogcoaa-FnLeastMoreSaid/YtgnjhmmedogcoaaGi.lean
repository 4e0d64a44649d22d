/- Groundwork over this seat's translation: Cpn, Cpi, Cpf, Cfi, Cff, Rch, Crf, Gof, Pof in one text; the conditions stand at each part. -/
import Derived.Test.YtgnjhmmedogcoaaPkmk
import Derived.Test.YtgnjhmmedogcoaaNmi
import Derived.Test.YtgnjhmmedogcoaaGg
import Derived.Test.YtgnjhmmedogcoaaGu
import Derived.Test.YtgnjhmmedogcoaaGd
import Derived.Test.YtgnjhmmedogcoaaGh
import Derived.Test.YtgnjhmmedogcoaaHas
import Derived.Test.YtgnjhmmedogcoaaRfit
import Derived.Test.YtgnjhmmedogcoaaSpone
import Derived.Test.YtgnjhmmedogcoaaPuts

/- Contracts of the program's functions that tell which picks are needed (needsOfPick, picksNeeded, picksThatCame, ChoiceTrim, ChoiceReach), over this seat's translation, as plain functions tell them; nothing that was there before a call has changed. Condition: at most 1048576 of each row and of what is in it. -/
namespace Go.Proofs.Ytgnjhmmedogcoaa
open Go.RowKit Go.Sort

namespace Cpu
open Foot Copy Nup
/-- What the release of a pick needs. -/
def ndsOf (S : List Rel) (x : Pk) : List Nd := if 0 ≤ shFind x.1 x.2 0 S then (match S[(shFind x.1 x.2 0 S).toNat]? with | some r => r.2.2.2 | none => []) else []
theorem nds_cases (S : List Rel) (x : Pk) : (shFind x.1 x.2 0 S = -1 ∧ ndsOf S x = []) ∨ ∃ i, ∃ h : i < S.length, shFind x.1 x.2 0 S = (i : Int) ∧ ndsOf S x = S[i].2.2.2 := by
  rcases shFind_range x.1 x.2 S 0 with h | ⟨j, h, hj⟩
  · left
    refine ⟨h, ?_⟩
    unfold ndsOf
    rw [h]
    rfl
  · right
    rw [Nat.zero_add] at h
    refine ⟨j, hj, h, ?_⟩
    unfold ndsOf
    rw [h, if_pos (by omega), Int.toNat_natCast, List.getElem?_eq_getElem hj]
theorem nds_mem {S : List Rel} {x : Pk} {q : Nd} (h : q ∈ ndsOf S x) : ∃ r ∈ S, q ∈ r.2.2.2 := by
  rcases nds_cases S x with ⟨_, e⟩ | ⟨i, hi, _, e⟩
  · rw [e] at h; simp at h
  · rw [e] at h
    exact ⟨_, List.getElem_mem hi, h⟩
theorem nds_len {S : List Rel} (hS : ∀ q ∈ S, q.2.2.2.length ≤ 5) (x : Pk) : (ndsOf S x).length ≤ 5 := by
  rcases nds_cases S x with ⟨_, e⟩ | ⟨i, hi, _, e⟩
  · rw [e]; simp
  · rw [e]; exact hS _ (List.getElem_mem hi)

def hitK (S : List Rel) (nm : Int) (st : St) (j : Nat) (x : Pk) : St := if (!st.1.getD j true && decide (x.1 = nm)) = true then (st.1.set j true, st.2 ++ ndsOf S x) else st
def passK (S : List Rel) (nm : Int) : Nat → List Pk → St → St
  | _, [], st => st
  | j, x :: t, st => passK S nm (j + 1) t (hitK S nm st j x)
def runK (S : List Rel) (C : List Pk) : Nat → Nat → St → St
  | 0, _, st => st
  | f + 1, i, st => match st.2[i]? with
    | none => st
    | some n => runK S C f (i + 1) (passK S n.1 0 C st)
def startK (C : List Pk) (N : List Nd) : St := (List.replicate C.length false, N)
def endK (S : List Rel) (N : List Nd) (C : List Pk) : St := runK S C 200 0 (startK C N)
theorem passK_step {S : List Rel} {C : List Pk} {j : Nat} {x : Pk} (h : C[j]? = some x) (nm : Int) (st : St) : passK S nm j (C.drop j) st = passK S nm (j + 1) (C.drop (j + 1)) (hitK S nm st j x) := by
  have hj : j < C.length := (List.getElem?_eq_some_iff.1 h).1
  rw [List.drop_eq_getElem_cons hj, (List.getElem?_eq_some_iff.1 h).2]
  rfl
theorem runK_step {S : List Rel} {C : List Pk} {f i : Nat} {st : St} {n : Nd} (h : st.2[i]? = some n) : runK S C (f + 1) i st = runK S C f (i + 1) (passK S n.1 0 C st) := by
  show (match st.2[i]? with | none => st | some n => runK S C f (i + 1) (passK S n.1 0 C st)) = _
  rw [h]
theorem runK_end {S : List Rel} {C : List Pk} {f i : Nat} {st : St} (h : st.2.length ≤ i) : runK S C f i st = st := by
  cases f with
  | zero => rfl
  | succ f =>
    show (match st.2[i]? with | none => st | some n => runK S C f (i + 1) (passK S n.1 0 C st)) = _
    rw [List.getElem?_eq_none h]
def restK : List Bool → Nat
  | [] => 0
  | b :: c => (if b = true then 0 else 5) + restK c
theorem restK_set : ∀ (c : List Bool) (j : Nat), c.getD j true = false → restK (c.set j true) + 5 = restK c
  | [], j, h => by simp at h
  | b :: c, 0, h => by
    have hb : b = false := by simpa using h
    subst hb
    simp [restK]
    omega
  | b :: c, j + 1, h => by
    have := restK_set c j (by simpa using h)
    simp only [List.set_cons_succ, restK]
    omega
theorem restK_new : ∀ n, restK (List.replicate n false) = 5 * n
  | 0 => rfl
  | n + 1 => by
    rw [List.replicate_succ]
    simp only [restK]
    rw [restK_new n]
    simp
    omega
structure OkK (S : List Rel) (N : List Nd) (C : List Pk) (st : St) : Prop where
  flags : st.1.length = C.length
  size : st.2.length + restK st.1 ≤ N.length + 5 * C.length
  mem : ∀ q ∈ st.2, q ∈ N ∨ ∃ x ∈ S, q ∈ x.2.2.2
theorem OkK.start {S : List Rel} {N : List Nd} {C : List Pk} : OkK S N C (startK C N) :=
  ⟨by simp [startK], by show N.length + restK (List.replicate C.length false) ≤ _; rw [restK_new]; omega, fun q hq => .inl hq⟩
theorem OkK.hit {S : List Rel} {N : List Nd} {C : List Pk} {st : St} (hS : ∀ q ∈ S, q.2.2.2.length ≤ 5) (h : OkK S N C st) (nm : Int) (j : Nat) (x : Pk) : OkK S N C (hitK S nm st j x) := by
  unfold hitK
  split
  · rename_i hc
    rw [Bool.and_eq_true] at hc
    have h1 := restK_set st.1 j (by simpa using hc.1)
    have h2 := nds_len hS x
    have h3 := h.size
    refine ⟨by simpa using h.flags, ?_, fun q hq => ?_⟩
    · simp only [List.length_append]
      omega
    · rcases List.mem_append.1 hq with hq | hq
      · exact h.mem q hq
      · exact .inr (nds_mem hq)
  · exact h
theorem hitK_front {S : List Rel} {nm : Int} {st : St} {j : Nat} {x : Pk} {i : Nat} (hi : i ≤ st.2.length) : (hitK S nm st j x).2.take i = st.2.take i ∧ i ≤ (hitK S nm st j x).2.length := by
  unfold hitK
  split
  · exact ⟨List.take_append_of_le_length hi, by simp; omega⟩
  · exact ⟨rfl, hi⟩
theorem pk_few : ∀ {C : List Pk} {lo : Int}, 0 ≤ lo → lo ≤ 8 → pkFrom lo C = true → (C.length : Int) ≤ 8 - lo
  | [], lo, _, h8, _ => by simp; omega
  | x :: t, lo, h0, h8, h => by
    simp only [pkFrom, Bool.and_eq_true, decide_eq_true_eq] at h
    have := pk_few (C := t) (lo := x.1 + 1) (by omega) (by omega) h.2.2
    simp only [List.length_cons]
    omega
theorem pk_len {C : List Pk} (h : pkOk C = true) : C.length ≤ 8 := by
  have := pk_few (Int.le_refl 0) (by omega) h
  omega

/-- The picks whose flags are set. -/
def cameL : List Pk → List Bool → List Pk
  | x :: t, b :: c => (if b = true then [x] else []) ++ cameL t c
  | _, _ => []
theorem cameL_len : ∀ (C : List Pk) (c : List Bool), (cameL C c).length ≤ C.length
  | [], c => by simp [cameL]
  | x :: t, [] => by simp [cameL]
  | x :: t, b :: c => by
    have := cameL_len t c
    simp only [cameL]
    split <;> simp <;> omega
theorem cameL_step {C : List Pk} {c : List Bool} {k : Nat} {x : Pk} (hx : C[k]? = some x) (hc : k < c.length) : cameL (C.drop k) (c.drop k) = (if c.getD k true = true then [x] else []) ++ cameL (C.drop (k + 1)) (c.drop (k + 1)) := by
  have hk : k < C.length := (List.getElem?_eq_some_iff.1 hx).1
  rw [List.drop_eq_getElem_cons hk, List.drop_eq_getElem_cons hc, (List.getElem?_eq_some_iff.1 hx).2, List.getD_eq_getElem?_getD, List.getElem?_eq_getElem hc]
  rfl
def trimL (S : List Rel) (N : List Nd) (C : List Pk) : List Pk := if (shOk S && ndOk N && pkOk C) = true then cameL C (endK S N C).1 else []
def reachL (S : List Rel) (N : List Nd) (C : List Pk) : List Int := (trimL S N C).map (·.1)
theorem trimL_len (S : List Rel) (N : List Nd) (C : List Pk) : (trimL S N C).length ≤ C.length := by
  unfold trimL
  split
  · exact cameL_len _ _
  · simp


end Cpu
end Go.Proofs.Ytgnjhmmedogcoaa

/- Contracts of the program's picksNeeded, ChoiceTrim and ChoiceReach, over this seat's translation, as plain functions tell them; nothing that was there before a call has changed. Condition: at most 1048576 of each row and of what is in it. -/
namespace Go.Proofs.Ytgnjhmmedogcoaa
open Go.RowKit Go.Sort

namespace Cpu
open Foot Copy Nup
/-- What the outer loop keeps. -/
def KRel (S : List Rel) (N : List Nd) (C : List Pk) (w : World) (g : Nat) (v i : Value) (wr : World) : Prop :=
  ∃ (k : Nat) (st : St), i = .int .i64 (k : Int) ∧ k ≤ st.2.length ∧ OkK S N C st ∧ endK S N C = runK S C (200 - k) k st ∧ NOwn wr w.heap.size 0 v st.2 ∧ Fl wr g st.1 ∧ Below w.heap.size w wr
/-- What the inner loop keeps. -/
def KIn (S : List Rel) (N : List Nd) (C : List Pk) (w : World) (g k : Nat) (n : Nd) (st : St) (v i : Value) (wr : World) : Prop :=
  ∃ (j : Nat) (s2 : St), i = .int .i64 (j : Int) ∧ j ≤ C.length ∧ k < s2.2.length ∧ OkK S N C s2 ∧ passK S n.1 0 C st = passK S n.1 j (C.drop j) s2 ∧ s2.2[k]? = some n ∧ NOwn wr w.heap.size 0 v s2.2 ∧ Fl wr g s2.1 ∧ Below w.heap.size w wr
theorem kup_next {S : List Rel} {N : List Nd} {C : List Pk} {w wr : World} {g k : Nat} {n : Nd} {st s2 : St} {v : Value} (hk : k < 200) (hn : st.2[k]? = some n) (hu : endK S N C = runK S C (200 - k) k st) (hp : passK S n.1 0 C st = passK S n.1 C.length (C.drop C.length) s2)
    (hl : k < s2.2.length) (ho : OkK S N C s2) (hN : NOwn wr w.heap.size 0 v s2.2) (hF : Fl wr g s2.1) (hb : Below w.heap.size w wr) : KRel S N C w g v (.int .i64 ((k : Int) + 1)) wr := by
  refine ⟨k + 1, s2, by go_num, by omega, ho, ?_, hN, hF, hb⟩
  rw [hu, show 200 - k = (200 - (k + 1)) + 1 by omega, runK_step hn, hp, List.drop_length]
  rfl
theorem kin_next {S : List Rel} {N : List Nd} {C : List Pk} {w wr : World} {g k j : Nat} {n : Nd} {x : Pk} {st s2 : St} {v : Value} (hS : ∀ q ∈ S, q.2.2.2.length ≤ 5) (hj : j < C.length) (hx : C[j]? = some x) (hl : k < s2.2.length) (ho : OkK S N C s2) (hp : passK S n.1 0 C st = passK S n.1 j (C.drop j) s2) (hn : s2.2[k]? = some n)
    (hN : NOwn wr w.heap.size 0 v (hitK S n.1 s2 j x).2) (hF : Fl wr g (hitK S n.1 s2 j x).1) (hb : Below w.heap.size w wr) : KIn S N C w g k n st v (.int .i64 ((j : Int) + 1)) wr := by
  obtain ⟨h1, h2⟩ := hitK_front (S := S) (nm := n.1) (j := j) (x := x) (st := s2) (i := k + 1) hl
  refine ⟨j + 1, hitK S n.1 s2 j x, by go_num, by omega, h2, ho.hit hS n.1 j x, by rw [hp, passK_step hx], ?_, hN, hF, hb⟩
  have e : (hitK S n.1 s2 j x).2[k]? = ((hitK S n.1 s2 j x).2.take (k + 1))[k]? := by rw [List.getElem?_take, if_pos (by omega)]
  rw [e, h1, List.getElem?_take, if_pos (by omega)]
  exact hn
theorem hitK_no {S : List Rel} {nm : Int} {st : St} {j : Nat} {x : Pk} (h : st.1.getD j true = true ∨ ¬ x.1 = nm) : hitK S nm st j x = st := by
  unfold hitK
  rw [if_neg]
  rw [Bool.and_eq_true]
  rintro ⟨h1, h2⟩
  rcases h with h | h
  · rw [h] at h1; cases h1
  · exact h (of_decide_eq_true h2)
theorem hitK_yes {S : List Rel} {nm : Int} {st : St} {j : Nat} {x : Pk} (h : st.1.getD j true = false) (h' : x.1 = nm) : hitK S nm st j x = (st.1.set j true, st.2 ++ ndsOf S x) := by
  unfold hitK
  rw [if_pos]
  rw [h, decide_eq_true h']
  rfl



end Cpu
end Go.Proofs.Ytgnjhmmedogcoaa

/- Plain facts on which picks are needed: by places (the program) and by names (the model) it is the same. No statement of the program is in it. -/
namespace Go.Proofs.Ytgnjhmmedogcoaa

namespace Cpu
open Nup Pkf
def hasP (x : Int) (L : List Pk) : Bool := L.any fun q => decide (q.1 = x)
theorem hasP_cons (x : Int) (q : Pk) (L : List Pk) : hasP x (q :: L) = (decide (q.1 = x) || hasP x L) := rfl
theorem hasP_app (x : Int) (A B : List Pk) : hasP x (A ++ B) = (hasP x A || hasP x B) := by simp [hasP]
theorem hasP_low {L : List Pk} {lo x : Int} (h : pkFrom lo L = true) (hx : x < lo) : hasP x L = false := by
  rw [← Bool.not_eq_true]
  intro hh
  unfold hasP at hh
  rw [List.any_eq_true] at hh
  obtain ⟨q, hq, e⟩ := hh
  have := from_low h q hq
  have := of_decide_eq_true e
  omega
theorem came_mem : ∀ {C : List Pk} {c : List Bool} {x : Pk}, x ∈ cameL C c → x ∈ C
  | [], c, x, h => by simp [cameL] at h
  | y :: t, [], x, h => by simp [cameL] at h
  | y :: t, b :: c, x, h => by
    simp only [cameL] at h
    rcases List.mem_append.1 h with h | h
    · split at h
      · have : x = y := by simpa using h
        rw [this]
        simp
      · simp at h
    · exact List.mem_cons_of_mem _ (came_mem h)
theorem from_mono {L : List Pk} {lo lo' : Int} (h : pkFrom lo L = true) (hl : lo' ≤ lo) : pkFrom lo' L = true := by
  cases L with
  | nil => rfl
  | cons x t =>
    simp only [pkFrom, Bool.and_eq_true, decide_eq_true_eq] at h ⊢
    exact ⟨⟨by omega, h.1.2⟩, h.2⟩
theorem came_from : ∀ {C : List Pk} {c : List Bool} {lo : Int}, pkFrom lo C = true → pkFrom lo (cameL C c) = true
  | [], c, lo, _ => by simp [cameL, pkFrom]
  | y :: t, [], lo, _ => by simp [cameL, pkFrom]
  | y :: t, b :: c, lo, h => by
    simp only [pkFrom, Bool.and_eq_true, decide_eq_true_eq] at h
    have ih := came_from (c := c) h.2.2
    cases b
    · show pkFrom lo ([] ++ cameL t c) = true
      rw [List.nil_append]
      exact from_mono ih (by omega)
    · show pkFrom lo ([y] ++ cameL t c) = true
      simp only [List.singleton_append, pkFrom, Bool.and_eq_true, decide_eq_true_eq]
      exact ⟨h.1, h.2.1, ih⟩

theorem passK_none {S : List Rel} {nm : Int} : ∀ {t : List Pk} {i : Nat} {st : St}, (∀ x ∈ t, ¬ x.1 = nm) → passK S nm i t st = st
  | [], _, _, _ => rfl
  | x :: t, i, st, h => by
    show passK S nm (i + 1) t (hitK S nm st i x) = st
    rw [hitK_no (.inr (h x (by simp)))]
    exact passK_none fun y hy => h y (List.mem_cons_of_mem _ hy)
theorem get_no : ∀ {t : List Pk} {n : Int}, pkGet n t = none → ∀ x ∈ t, ¬ x.1 = n
  | [], _, _, x, h => by simp at h
  | y :: t, n, h, x, hx => by
    unfold pkGet at h
    split at h
    · cases h
    · rename_i hne
      rcases List.mem_cons.1 hx with rfl | hx
      · exact hne
      · exact get_no h x hx
theorem passK_get {S : List Rel} {n : Int} {v : V4} : ∀ {t : List Pk} {lo : Int} (i : Nat), pkFrom lo t = true → pkGet n t = some v → ∃ j, t[j]? = some (n, v) ∧ ∀ st, passK S n i t st = hitK S n st (i + j) (n, v)
  | [], _, _, _, h => by simp [pkGet] at h
  | x :: t, lo, i, hf, h => by
    simp only [pkFrom, Bool.and_eq_true, decide_eq_true_eq] at hf
    unfold pkGet at h
    split at h
    · rename_i e
      have hx : x = (n, v) := by
        cases h
        rw [← e]
      subst hx
      refine ⟨0, rfl, fun st => ?_⟩
      show passK S n (i + 1) t (hitK S n st i (n, v)) = _
      rw [passK_none fun y hy e => by have := from_low hf.2.2 y hy; simp only at this; omega, Nat.add_zero]
    · rename_i hne
      obtain ⟨j, h1, h2⟩ := passK_get (i + 1) hf.2.2 h
      refine ⟨j + 1, by simpa using h1, fun st => ?_⟩
      show passK S n (i + 1) t (hitK S n st i x) = _
      rw [hitK_no (.inr hne), h2, show i + 1 + j = i + (j + 1) by omega]

theorem came_flag : ∀ {C : List Pk} {c : List Bool} {lo : Int} {j : Nat} {x : Pk}, pkFrom lo C = true → C[j]? = some x → j < c.length → hasP x.1 (cameL C c) = c.getD j true
  | [], c, _, j, x, _, h, _ => by simp at h
  | y :: t, [], _, j, x, _, _, hc => by simp at hc
  | y :: t, b :: c, lo, 0, x, hf, h, _ => by
    obtain rfl : y = x := by simpa using h
    simp only [pkFrom, Bool.and_eq_true, decide_eq_true_eq] at hf
    have hn := hasP_low (x := y.1) (came_from (c := c) hf.2.2) (by omega)
    show hasP y.1 ((if b = true then [y] else []) ++ cameL t c) = b
    rw [hasP_app, hn]
    cases b <;> simp [hasP]
  | y :: t, b :: c, lo, j + 1, x, hf, h, hc => by
    simp only [pkFrom, Bool.and_eq_true, decide_eq_true_eq] at hf
    have hx : t[j]? = some x := by simpa using h
    have hl := from_low hf.2.2 x (List.mem_of_getElem? hx)
    have ih := came_flag hf.2.2 hx (c := c) (by simpa using hc)
    show hasP x.1 ((if b = true then [y] else []) ++ cameL t c) = _
    rw [hasP_app, ih]
    have hne : decide (y.1 = x.1) = false := decide_eq_false (by omega)
    cases b <;> simp [hasP, hne]
theorem came_other : ∀ {C : List Pk} {c : List Bool} {j : Nat} {x : Pk} {i : Int}, C[j]? = some x → ¬ x.1 = i → ∀ b, hasP i (cameL C (c.set j b)) = hasP i (cameL C c)
  | [], c, j, x, i, h, _, b => by simp at h
  | y :: t, [], j, x, i, _, _, b => by simp
  | y :: t, d :: c, 0, x, i, h, hne, b => by
    obtain rfl : y = x := by simpa using h
    have hz : decide (y.1 = i) = false := decide_eq_false hne
    show hasP i ((if b = true then [y] else []) ++ cameL t c) = hasP i ((if d = true then [y] else []) ++ cameL t c)
    rw [hasP_app, hasP_app]
    cases b <;> cases d <;> simp [hasP, hz]
  | y :: t, d :: c, j + 1, x, i, h, hne, b => by
    show hasP i ((if d = true then [y] else []) ++ cameL t (c.set j b)) = hasP i ((if d = true then [y] else []) ++ cameL t c)
    rw [hasP_app, hasP_app, came_other (show t[j]? = some x by simpa using h) hne b]

/-- Which names below 8 picks have. -/
def seenK (L : List Pk) : List Bool := (List.range 8).map fun (m : Nat) => hasP (m : Int) L
theorem seenK_len (L : List Pk) : (seenK L).length = 8 := by simp [seenK]
theorem seenK_at (L : List Pk) {m : Nat} (h : m < 8) : (seenK L).getD m true = hasP (m : Int) L := by
  rw [List.getD_eq_getElem?_getD]
  simp [seenK, h]
theorem seenK_next {C : List Pk} {c : List Bool} {lo : Int} {j m : Nat} {v : V4} (hf : pkFrom lo C = true) (h : C[j]? = some ((m : Int), v)) (hm : m < 8) (hc : j < c.length) : (seenK (cameL C c)).set m true = seenK (cameL C (c.set j true)) := by
  apply List.ext_getElem?
  intro i
  by_cases hi : i < 8
  · by_cases him : i = m
    · subst him
      rw [List.getElem?_set_self (by rw [seenK_len]; exact hi)]
      have := came_flag (c := c.set j true) hf h (by simpa using hc)
      simp only at this
      have e : (c.set j true).getD j true = true := by rw [List.getD_eq_getElem?_getD, List.getElem?_set_self hc]; rfl
      rw [e] at this
      simp [seenK, hi, this]
    · rw [List.getElem?_set_ne (by omega)]
      have := came_other (c := c) h (i := (i : Int)) (show ¬ (m : Int) = (i : Int) by omega) true
      simp [seenK, hi, this]
  · rw [List.getElem?_eq_none (by rw [List.length_set, seenK_len]; omega), List.getElem?_eq_none (by rw [seenK_len]; omega)]

/-- The names below a number that picks have. -/
def npTo (L : List Pk) : Nat → List Int
  | 0 => []
  | k + 1 => npTo L k ++ (if hasP (k : Int) L = true then [(k : Int)] else [])
theorem npTo_len (L : List Pk) : ∀ k, (npTo L k).length ≤ k
  | 0 => Nat.le_refl _
  | k + 1 => by
    have := npTo_len L k
    unfold npTo
    split <;> simp <;> omega
theorem low_none : ∀ {L : List Pk} {lo k : Int}, pkFrom lo L = true → k ≤ lo → L.filter (fun q => decide (q.1 < k)) = [] := fun {L lo k} h hk => by
  rw [List.filter_eq_nil_iff]
  intro q hq
  have := from_low h q hq
  simp
  omega
theorem np_step : ∀ {L : List Pk} {lo k : Int}, pkFrom lo L = true → (L.filter (fun q => decide (q.1 < k + 1))).map (·.1) = (L.filter (fun q => decide (q.1 < k))).map (·.1) ++ (if hasP k L = true then [k] else [])
  | [], _, _, _ => rfl
  | x :: t, lo, k, h => by
    simp only [pkFrom, Bool.and_eq_true, decide_eq_true_eq] at h
    have ih := np_step (k := k) h.2.2
    rw [List.filter_cons, List.filter_cons, hasP_cons]
    by_cases h1 : x.1 < k
    · rw [if_pos (decide_eq_true (by omega)), if_pos (decide_eq_true h1), decide_eq_false (show ¬ x.1 = k by omega), Bool.false_or, List.map_cons, List.map_cons, ih]
      rfl
    · by_cases h2 : x.1 = k
      · rw [if_pos (decide_eq_true (by omega)), if_neg (by simp; omega), decide_eq_true h2, Bool.true_or, if_pos rfl, low_none h.2.2 (show k + 1 ≤ x.1 + 1 by omega), low_none h.2.2 (show k ≤ x.1 + 1 by omega)]
        simp [h2]
      · rw [if_neg (by simp; omega), if_neg (by simp; omega), decide_eq_false h2, Bool.false_or]
        exact ih
theorem np_filter {L : List Pk} {lo : Int} (h : pkFrom lo L = true) (h0 : 0 ≤ lo) : ∀ k : Nat, npTo L k = (L.filter (fun q => decide (q.1 < (k : Int)))).map (·.1)
  | 0 => by
    rw [low_none h (show ((0 : Nat) : Int) ≤ lo by omega)]
    rfl
  | k + 1 => by
    show npTo L k ++ _ = _
    rw [np_filter h h0 k, show ((k + 1 : Nat) : Int) = (k : Int) + 1 by omega, np_step h]
theorem np_all {L : List Pk} (h : pkFrom 0 L = true) : npTo L 8 = L.map (·.1) := by
  rw [np_filter h (Int.le_refl 0) 8]
  congr 1
  rw [List.filter_eq_self]
  intro q hq
  have := (from_top h q hq).1
  simp
  omega

/-- What the model's loop over names leaves of a pick, and of all. -/
def repK (x : Pk) : List Int → List Pk
  | [] => []
  | m :: t => (if m = x.1 then [x] else []) ++ repK x t
def selK (names : List Int) : List Pk → List Pk
  | [] => []
  | x :: t => repK x names ++ selK names t
theorem repK_none {x : Pk} : ∀ {names : List Int}, (∀ m ∈ names, ¬ m = x.1) → repK x names = []
  | [], _ => rfl
  | m :: t, h => by
    show (if m = x.1 then [x] else []) ++ repK x t = []
    rw [if_neg (h m (by simp)), repK_none fun y hy => h y (List.mem_cons_of_mem _ hy)]
    rfl
theorem repK_step {x : Pk} {names : List Int} {j : Nat} {m : Int} (h : names[j]? = some m) : repK x (names.drop j) = (if m = x.1 then [x] else []) ++ repK x (names.drop (j + 1)) := by
  have hj : j < names.length := (List.getElem?_eq_some_iff.1 h).1
  rw [List.drop_eq_getElem_cons hj, (List.getElem?_eq_some_iff.1 h).2]
  rfl
theorem repK_len {x : Pk} : ∀ names : List Int, (repK x names).length ≤ names.length
  | [] => Nat.le_refl _
  | m :: t => by
    have := repK_len (x := x) t
    unfold repK
    split <;> simp <;> omega
theorem selK_step {names : List Int} {C : List Pk} {k : Nat} {x : Pk} (h : C[k]? = some x) : selK names (C.drop k) = repK x names ++ selK names (C.drop (k + 1)) := by
  have hj : k < C.length := (List.getElem?_eq_some_iff.1 h).1
  rw [List.drop_eq_getElem_cons hj, (List.getElem?_eq_some_iff.1 h).2]
  rfl
theorem selK_nil : ∀ C : List Pk, selK [] C = []
  | [] => rfl
  | x :: t => by show repK x [] ++ selK [] t = []; rw [selK_nil t]; rfl
theorem selK_skip {y : Int} {names : List Int} : ∀ {t : List Pk}, (∀ x ∈ t, ¬ y = x.1) → selK (y :: names) t = selK names t
  | [], _ => rfl
  | x :: t, h => by
    show ((if y = x.1 then [x] else []) ++ repK x names) ++ selK (y :: names) t = repK x names ++ selK names t
    rw [if_neg (h x (by simp)), selK_skip fun z hz => h z (List.mem_cons_of_mem _ hz)]
    rfl
theorem sel_came : ∀ {C : List Pk} {c : List Bool} {lo : Int}, pkFrom lo C = true → selK ((cameL C c).map (·.1)) C = cameL C c
  | [], c, _, _ => by simp [cameL, selK]
  | x :: t, [], _, _ => by show selK [] _ = []; exact selK_nil _
  | x :: t, b :: c, lo, h => by
    simp only [pkFrom, Bool.and_eq_true, decide_eq_true_eq] at h
    have ih := sel_came (c := c) h.2.2
    have hno : ∀ m ∈ (cameL t c).map (·.1), ¬ m = x.1 := fun m hm e => by
      obtain ⟨q, hq, rfl⟩ := List.mem_map.1 hm
      have := from_low h.2.2 q (came_mem hq)
      omega
    have hnt : ∀ y ∈ t, ¬ x.1 = y.1 := fun y hy e => by
      have := from_low h.2.2 y hy
      omega
    cases b
    · show repK x ((cameL t c).map (·.1)) ++ selK ((cameL t c).map (·.1)) t = [] ++ cameL t c
      rw [repK_none hno, ih]
    · show ((if x.1 = x.1 then [x] else []) ++ repK x ((cameL t c).map (·.1))) ++ selK (x.1 :: (cameL t c).map (·.1)) t = [x] ++ cameL t c
      rw [if_pos rfl, repK_none hno, selK_skip hnt, ih]
      rfl
theorem sel_trim (S : List Rel) (N : List Nd) (C : List Pk) : selK (reachL S N C) C = trimL S N C := by
  unfold reachL trimL
  split
  · rename_i h
    rw [Bool.and_eq_true] at h
    exact sel_came (lo := 0) h.2
  · exact selK_nil C
theorem reach_names {S : List Rel} {N : List Nd} {C : List Pk} (hS : shOk S = true) (hN : ndOk N = true) (hC : pkOk C = true) : reachL S N C = npTo (cameL C (endK S N C).1) 8 := by
  have h0 : pkFrom 0 C = true := hC
  rw [np_all (came_from h0)]
  unfold reachL trimL
  rw [hS, hN, hC]
  rfl
end Cpu
end Go.Proofs.Ytgnjhmmedogcoaa

/- Contracts of the program's ChoiceFault and of what it calls, over this seat's translation, as plain functions tell them; nothing that was there before a call has changed. Condition: at most 1048576 of each row and of what is in it. -/
namespace Go.Proofs.Ytgnjhmmedogcoaa
open Go.RowKit Go.Sort

namespace Cfa
open Foot Copy Nup Cpu
theorem all_step {α : Type} {L : List α} {k : Nat} {x : α} (p : α → Bool) (h : L[k]? = some x) : (L.drop k).all p = (p x && (L.drop (k + 1)).all p) := by
  have hk : k < L.length := (List.getElem?_eq_some_iff.1 h).1
  rw [List.drop_eq_getElem_cons hk, (List.getElem?_eq_some_iff.1 h).2]
  rfl
def thereP (S : List Rel) (x : Pk) : Bool := decide (0 ≤ shFind x.1 x.2 0 S)
def goneAt (S : List Rel) (x : Pk) : Bool := if 0 ≤ shFind x.1 x.2 0 S then (match S[(shFind x.1 x.2 0 S).toNat]? with | some r => r.2.2.1 | none => false) else false
def heldP (H : List Pk) (x : Pk) : Bool := decide (pkGet x.1 H = some x.2)
def allowP (S : List Rel) (H : List Pk) (x : Pk) : Bool := !(goneAt S x && !heldP H x)
def metP (C : List Pk) (n : Nd) : Bool := match pkGet n.1 C with
  | some (a, b, c, d) => hasL n.2 a b c d
  | none => false
def innerP (S : List Rel) (C : List Pk) (x : Pk) : Bool := (ndsOf S x).all (metP C)
def faultF (S : List Rel) (N : List Nd) (H C : List Pk) : Int :=
  if (shOk S && (ndOk N && (pkOk H && pkOk C))) = true then
    (if C.all (thereP S) = true then
      (if C.all (allowP S H) = true then
        (if N.all (metP C) = true then
          (if C.all (innerP S C) = true then
            (if (cameL C (endK S N C).1).length < C.length then 6 else 0)
          else 5)
        else 4)
      else 3)
    else 2)
  else 1
theorem gone_cases (S : List Rel) (x : Pk) : (shFind x.1 x.2 0 S = -1 ∧ goneAt S x = false) ∨ ∃ i, ∃ h : i < S.length, shFind x.1 x.2 0 S = (i : Int) ∧ goneAt S x = S[i].2.2.1 := by
  rcases shFind_range x.1 x.2 S 0 with h | ⟨j, h, hj⟩
  · left
    refine ⟨h, ?_⟩
    unfold goneAt
    rw [h]
    rfl
  · right
    rw [Nat.zero_add] at h
    refine ⟨j, hj, h, ?_⟩
    unfold goneAt
    rw [h, if_pos (by omega), Int.toNat_natCast, List.getElem?_eq_getElem hj]

theorem shFind_hit {n : Int} {v : Int × Int × Int × Int} : ∀ {S : List Rel} {k j : Nat}, shFind n v k S = ((k + j : Nat) : Int) → ∀ h : j < S.length, S[j].1 = n ∧ S[j].2.1 = v
  | [], _, _, _, h => absurd h (by simp)
  | q :: t, k, j, hf, h => by
    unfold shFind at hf
    split at hf
    · rename_i hq
      obtain rfl : j = 0 := by omega
      exact hq
    · cases j with
      | zero =>
        rcases shFind_range n v t (k + 1) with e | ⟨m, e, _⟩
        · omega
        · omega
      | succ j =>
        exact shFind_hit (k := k + 1) (j := j) (by rw [hf]; congr 1; omega) (by simpa using h)






end Cfa
end Go.Proofs.Ytgnjhmmedogcoaa

/- Contracts of the program's faultOf and ChoiceFault, over this seat's translation, as the plain function faultF tells them; nothing that was there before a call has changed. Condition: at most 1048576 of each row and of what is in it. -/
namespace Go.Proofs.Ytgnjhmmedogcoaa
open Go.RowKit Go.Sort

namespace Cfa
open Foot Copy Nup Cpu
def restF (S : List Rel) (N : List Nd) (H C : List Pk) : Int :=
  if C.all (thereP S) = true then
    (if C.all (allowP S H) = true then
      (if N.all (metP C) = true then
        (if C.all (innerP S C) = true then
          (if (cameL C (endK S N C).1).length < C.length then 6 else 0)
        else 5)
      else 4)
    else 3)
  else 2
theorem fault_rest {S : List Rel} {N : List Nd} {H C : List Pk} (h1 : shOk S = true) (h2 : ndOk N = true) (h3 : pkOk H = true) (h4 : pkOk C = true) : faultF S N H C = restF S N H C := by
  unfold faultF
  rw [h1, h2, h3, h4]
  rfl


end Cfa
end Go.Proofs.Ytgnjhmmedogcoaa

/- Which picks are needed, told by induction: those of needs, and those that what is needed needs; the program's and the model's walk finds just these. Condition: at most 30 picks, 5 needs, 5 needs of a release. -/
namespace Go.Proofs.Ytgnjhmmedogcoaa
open Go.RowKit Go.Sort

namespace Rch
open Foot Copy Nup Cpu
theorem flag_set (c : List Bool) (j k : Nat) : (c.set j true).getD k true = if j = k then true else c.getD k true := by
  rw [List.getD_eq_getElem?_getD, List.getD_eq_getElem?_getD, List.getElem?_set]
  by_cases h : j = k
  · rw [if_pos h, if_pos h]
    split <;> rfl
  · rw [if_neg h, if_neg h]
/-- A pick that is needed. -/
inductive Up (S : List Rel) (N : List Nd) (C : List Pk) : Pk → Prop
  | own {n : Nd} {x : Pk} : n ∈ N → x ∈ C → x.1 = n.1 → Up S N C x
  | dep {y : Pk} {n : Nd} {x : Pk} : Up S N C y → n ∈ ndsOf S y → x ∈ C → x.1 = n.1 → Up S N C x
theorem Up.mem {S : List Rel} {N : List Nd} {C : List Pk} {x : Pk} (h : Up S N C x) : x ∈ C := by
  cases h with
  | own _ h _ => exact h
  | dep _ _ h _ => exact h
/-- More needs and more picks: not less is needed. -/
theorem Up.more {S : List Rel} {N N' : List Nd} {C C' : List Pk} (hN : ∀ n ∈ N, n ∈ N') (hC : ∀ x ∈ C, x ∈ C') {x : Pk} (h : Up S N C x) : Up S N' C' x := by
  induction h with
  | own h1 h2 h3 => exact .own (hN _ h1) (hC _ h2) h3
  | dep _ h2 h3 h4 ih => exact .dep ih h2 (hC _ h3) h4
/-- What is needed among picks is needed among those that are. -/
theorem Up.less {S : List Rel} {N : List Nd} {C C' : List Pk} (hC : ∀ x, Up S N C x → x ∈ C') {x : Pk} (h : Up S N C x) : Up S N C' x := by
  induction h with
  | own h1 h2 h3 => exact .own h1 (hC _ (.own h1 h2 h3)) h3
  | dep h1 h2 h3 h4 ih => exact .dep ih h2 (hC _ (.dep h1 h2 h3 h4)) h4
def By (S : List Rel) (N : List Nd) (C : List Pk) (q : Nd) : Prop := q ∈ N ∨ ∃ y, Up S N C y ∧ q ∈ ndsOf S y
theorem By.up {S : List Rel} {N : List Nd} {C : List Pk} {q : Nd} {x : Pk} (h : By S N C q) (hx : x ∈ C) (he : x.1 = q.1) : Up S N C x := by
  rcases h with h | ⟨y, h1, h2⟩
  · exact .own h hx he
  · exact .dep h1 h2 hx he
structure ClK (S : List Rel) (N : List Nd) (C : List Pk) (i : Nat) (st : St) : Prop where
  came : ∀ j x, C[j]? = some x → st.1.getD j true = true → ∀ q ∈ ndsOf S x, q ∈ st.2
  seen : ∀ k n, k < i → st.2[k]? = some n → ∀ j x, C[j]? = some x → x.1 = n.1 → st.1.getD j true = true
  first : ∀ q ∈ N, q ∈ st.2
  sound : ∀ j x, C[j]? = some x → st.1.getD j true = true → Up S N C x
  by' : ∀ q ∈ st.2, By S N C q
theorem ClK.hit {S : List Rel} {N : List Nd} {C : List Pk} {i : Nat} {st : St} {j : Nat} {x : Pk} (h : ClK S N C i st) (n : Nd) (hn : By S N C n) (hx : C[j]? = some x) (hi : i ≤ st.2.length) :
    ClK S N C i (hitK S n.1 st j x) ∧ (∀ k, st.1.getD k true = true → (hitK S n.1 st j x).1.getD k true = true) ∧ (x.1 = n.1 → (hitK S n.1 st j x).1.getD j true = true) := by
  unfold hitK
  by_cases hc : (!st.1.getD j true && decide (x.1 = n.1)) = true
  · rw [if_pos hc]
    rw [Bool.and_eq_true, decide_eq_true_eq] at hc
    have hup : Up S N C x := hn.up (List.mem_of_getElem? hx) hc.2
    have up : ∀ k, st.1.getD k true = true → (st.1.set j true).getD k true = true := fun k hk => by
      rw [flag_set]
      split
      · rfl
      · exact hk
    refine ⟨⟨fun j' x' hx' hf q hq => ?_, fun k m hk hm j' x' hx' hf => ?_, fun q hq => List.mem_append_left _ (h.first q hq), fun j' x' hx' hf => ?_, fun q hq => ?_⟩, up, fun _ => by rw [flag_set, if_pos rfl]⟩
    · by_cases hj : j = j'
      · subst hj
        rw [hx] at hx'
        injection hx' with hx'
        subst hx'
        exact List.mem_append_right _ hq
      · replace hf : (st.1.set j true).getD j' true = true := hf
        rw [flag_set, if_neg hj] at hf
        exact List.mem_append_left _ (h.came j' x' hx' hf q hq)
    · replace hm : (st.2 ++ ndsOf S x)[k]? = some m := hm
      rw [List.getElem?_append_left (by omega)] at hm
      exact up _ (h.seen k m hk hm j' x' hx' hf)
    · by_cases hj : j = j'
      · subst hj
        rw [hx] at hx'
        injection hx' with hx'
        subst hx'
        exact hup
      · replace hf : (st.1.set j true).getD j' true = true := hf
        rw [flag_set, if_neg hj] at hf
        exact h.sound j' x' hx' hf
    · rcases List.mem_append.1 hq with hq | hq
      · exact h.by' q hq
      · exact .inr ⟨x, hup, hq⟩
  · rw [if_neg hc]
    refine ⟨h, fun _ hk => hk, fun hf => ?_⟩
    rw [decide_eq_true hf, Bool.and_true] at hc
    simpa using hc
theorem ClK.pass {S : List Rel} {N : List Nd} {C : List Pk} {i : Nat} (n : Nd) (hn : By S N C n) : ∀ (t : List Pk) (j : Nat) (st : St), C.drop j = t → ClK S N C i st → i ≤ st.2.length → (∀ k x, k < j → C[k]? = some x → x.1 = n.1 → st.1.getD k true = true) →
    ClK S N C i (passK S n.1 j t st) ∧ ∀ k x, C[k]? = some x → x.1 = n.1 → (passK S n.1 j t st).1.getD k true = true
  | [], j, st, ht, h, hi, hk => ⟨h, fun k x hx hf => by
      have h1 : C.length ≤ j := by
        have := congrArg List.length ht
        rw [List.length_drop] at this
        simp only [List.length_nil] at this
        omega
      have h2 := (List.getElem?_eq_some_iff.1 hx).1
      exact hk k x (by omega) hx hf⟩
  | x :: t, j, st, ht, h, hi, hk => by
    have hx : C[j]? = some x := by
      have : (C.drop j)[0]? = some x := by rw [ht]; rfl
      simpa using this
    have ht' : C.drop (j + 1) = t := by
      have := congrArg (fun l => l.drop 1) ht
      simpa using this
    obtain ⟨c1, c2, c3⟩ := h.hit n hn hx hi
    obtain ⟨_, f2⟩ := hitK_front (S := S) (nm := n.1) (j := j) (x := x) hi
    exact ClK.pass n hn t (j + 1) (hitK S n.1 st j x) ht' c1 f2 (fun k y hkj hy hf => by
      by_cases he : k = j
      · subst he
        rw [hx] at hy
        injection hy with hy
        subst hy
        exact c3 hf
      · exact c2 k (hk k y (by omega) hy hf))
theorem passK_ok {S : List Rel} {N : List Nd} {C : List Pk} (hS : ∀ q ∈ S, q.2.2.2.length ≤ 5) (nm : Int) : ∀ (t : List Pk) (j : Nat) (st : St), OkK S N C st → OkK S N C (passK S nm j t st)
  | [], _, _, h => h
  | x :: t, j, _, h => passK_ok hS nm t (j + 1) _ (h.hit hS nm j x)
theorem passK_front {S : List Rel} {nm : Int} {i : Nat} : ∀ (t : List Pk) (j : Nat) (st : St), i ≤ st.2.length → (passK S nm j t st).2.take i = st.2.take i ∧ i ≤ (passK S nm j t st).2.length
  | [], _, _, h => ⟨rfl, h⟩
  | x :: t, j, st, h => by
    obtain ⟨f1, f2⟩ := hitK_front (S := S) (nm := nm) (j := j) (x := x) h
    obtain ⟨g1, g2⟩ := passK_front t (j + 1) (hitK S nm st j x) f2
    exact ⟨g1.trans f1, g2⟩
theorem runK_closed {S : List Rel} {N : List Nd} {C : List Pk} (hS : ∀ q ∈ S, q.2.2.2.length ≤ 5) (hN : N.length ≤ 5) (hC : C.length ≤ 30) : ∀ (f i : Nat) (st : St), OkK S N C st → ClK S N C i st → i ≤ st.2.length → 155 < i + f →
    OkK S N C (runK S C f i st) ∧ ClK S N C (runK S C f i st).2.length (runK S C f i st)
  | 0, i, st, ho, _, hi, hf => by
    have := ho.size
    omega
  | f + 1, i, st, ho, hc, hi, hf => by
    rcases hn : st.2[i]? with _ | n
    · have hl : st.2.length ≤ i := List.getElem?_eq_none_iff.1 hn
      obtain rfl : i = st.2.length := by omega
      rw [runK_end (Nat.le_refl _)]
      exact ⟨ho, hc⟩
    · have hl := (List.getElem?_eq_some_iff.1 hn).1
      rw [runK_step hn]
      have hb := hc.by' n (List.mem_of_getElem? hn)
      obtain ⟨p1, p4⟩ := hc.pass n hb C 0 st rfl hi (fun k x hk => by omega)
      obtain ⟨e1, e2⟩ := passK_front (S := S) (nm := n.1) (i := i + 1) C 0 st (by omega)
      have hni : (passK S n.1 0 C st).2[i]? = some n := by
        have h1 := congrArg (fun l => l[i]?) e1
        simp only [List.getElem?_take, if_pos (Nat.lt_succ_self i)] at h1
        rw [h1, hn]
      refine runK_closed hS hN hC f (i + 1) _ (passK_ok hS n.1 C 0 st ho) ⟨p1.came, fun k m hk hm => ?_, p1.first, p1.sound, p1.by'⟩ e2 (by omega)
      by_cases hki : k = i
      · subst hki
        rw [hni] at hm
        injection hm with hm
        subst hm
        exact p4
      · exact p1.seen k m (by omega) hm
theorem mem_came : ∀ {C : List Pk} {c : List Bool} {x : Pk}, c.length = C.length → (x ∈ cameL C c ↔ ∃ j, C[j]? = some x ∧ c.getD j true = true)
  | [], c, x, h => by simp [cameL]
  | y :: t, [], x, h => by simp at h
  | y :: t, b :: c, x, h => by
    have ih := mem_came (C := t) (c := c) (x := x) (by simpa using h)
    show x ∈ (if b = true then [y] else []) ++ cameL t c ↔ _
    rw [List.mem_append, ih]
    constructor
    · rintro (h1 | ⟨j, h1, h2⟩)
      · split at h1
        · rename_i hb
          exact ⟨0, by simpa using (List.mem_singleton.1 h1).symm, by simpa using hb⟩
        · simp at h1
      · exact ⟨j + 1, by simpa using h1, by simpa using h2⟩
    · rintro ⟨j, h1, h2⟩
      cases j with
      | zero =>
        left
        have hb : b = true := by simpa using h2
        have hy : y = x := by simpa using h1
        rw [if_pos hb, hy]
        exact List.mem_singleton.2 rfl
      | succ j => exact .inr ⟨j, by simpa using h1, by simpa using h2⟩
/-- What the walk finds is what is needed. -/
theorem came_up {S : List Rel} {N : List Nd} {C : List Pk} (hS : ∀ q ∈ S, q.2.2.2.length ≤ 5) (hN : N.length ≤ 5) (hC : C.length ≤ 30) (x : Pk) : x ∈ cameL C (endK S N C).1 ↔ Up S N C x := by
  have hc : ClK S N C 0 (startK C N) := by
    have hno : ∀ j (y : Pk), C[j]? = some y → (startK C N).1.getD j true = true → False := fun j y hy hf => by
      have hj := (List.getElem?_eq_some_iff.1 hy).1
      replace hf : (List.replicate C.length false).getD j true = true := hf
      rw [List.getD_eq_getElem?_getD, List.getElem?_replicate, if_pos hj] at hf
      exact absurd hf (by decide)
    exact ⟨fun j y hy hf => (hno j y hy hf).elim, fun k m hk => by omega, fun q hq => hq, fun j y hy hf => (hno j y hy hf).elim, fun q hq => .inl hq⟩
  obtain ⟨ho, h2⟩ := runK_closed hS hN hC 200 0 (startK C N) OkK.start hc (Nat.zero_le _) (by omega)
  have hrun : runK S C 200 0 (startK C N) = endK S N C := rfl
  rw [hrun] at ho h2
  rw [mem_came ho.flags]
  constructor
  · rintro ⟨j, h1, h3⟩
    exact h2.sound j x h1 h3
  · intro h
    have fl : ∀ {q : Nd} {z : Pk}, q ∈ (endK S N C).2 → z ∈ C → z.1 = q.1 → ∃ j, C[j]? = some z ∧ (endK S N C).1.getD j true = true := fun {q z} hq hz he => by
      obtain ⟨k, hk, rfl⟩ := List.getElem_of_mem hq
      obtain ⟨j, hj, rfl⟩ := List.getElem_of_mem hz
      exact ⟨j, List.getElem?_eq_getElem hj, h2.seen k _ hk (List.getElem?_eq_getElem hk) j _ (List.getElem?_eq_getElem hj) he⟩
    induction h with
    | own h1 h3 h4 => exact fl (h2.first _ h1) h3 h4
    | dep _ h3 h4 h5 ih =>
      obtain ⟨j, h6, h7⟩ := ih
      exact fl (h2.came j _ h6 h7 _ h3) h4 h5
end Rch
end Go.Proofs.Ytgnjhmmedogcoaa

/- Which names are needed, as plain facts: each of them is picked; fewer needs need no more; what is left of a choice that meets all needs, without what is not needed, is fine, and nothing more can be left out. No condition. -/
namespace Go.Proofs.Ytgnjhmmedogcoaa
open Go.RowKit Go.Sort

namespace Rch
open Foot Copy Nup Cpu Cfa
theorem sh_five {S : List Rel} (h : shOk S = true) : ∀ q ∈ S, q.2.2.2.length ≤ 5 := fun q hq => nd_len (sh_needs h q hq)
theorem get_mem {n : Int} {v : V4} : ∀ {C : List Pk}, pkGet n C = some v → (n, v) ∈ C
  | [], h => by simp [pkGet] at h
  | q :: t, h => by
    unfold pkGet at h
    split at h
    · rename_i hq
      injection h with h
      obtain ⟨q1, q2⟩ := q
      simp only at hq h
      subst hq
      subst h
      exact List.mem_cons_self
    · exact List.mem_cons_of_mem _ (get_mem h)
theorem pk_low : ∀ {M : List Pk} {lo : Int}, pkFrom lo M = true → ∀ q ∈ M, lo ≤ q.1
  | [], _, _, q, hq => by simp at hq
  | x :: t, lo, h, q, hq => by
    simp only [pkFrom, Bool.and_eq_true, decide_eq_true_eq] at h
    rcases List.mem_cons.1 hq with rfl | hq
    · exact h.1.1
    · have := pk_low h.2.2 q hq
      omega
theorem get_some {n : Int} {v : V4} : ∀ {C : List Pk} {lo : Int}, pkFrom lo C = true → (n, v) ∈ C → pkGet n C = some v
  | [], _, _, h => by simp at h
  | q :: t, lo, hf, h => by
    simp only [pkFrom, Bool.and_eq_true, decide_eq_true_eq] at hf
    unfold pkGet
    rcases List.mem_cons.1 h with h | h
    · rw [← h, if_pos rfl]
    · have := pk_low hf.2.2 _ h
      rw [if_neg (by simp only at this; omega)]
      exact get_some hf.2.2 h
theorem reach_mem {S : List Rel} {N : List Nd} {C : List Pk} (hS : shOk S = true) (hN : ndOk N = true) (hC : pkOk C = true) (z : Int) : z ∈ reachL S N C ↔ ∃ x, Up S N C x ∧ x.1 = z := by
  unfold reachL trimL
  rw [hS, hN, hC, if_pos (by rfl), List.mem_map]
  constructor
  · rintro ⟨x, h1, h2⟩
    exact ⟨x, (came_up (sh_five hS) (nd_len hN) (by have := pk_len hC; omega) x).1 h1, h2⟩
  · rintro ⟨x, h1, h2⟩
    exact ⟨x, (came_up (sh_five hS) (nd_len hN) (by have := pk_len hC; omega) x).2 h1, h2⟩
theorem reach_ok {S : List Rel} {N : List Nd} {C : List Pk} {z : Int} (h : z ∈ reachL S N C) : shOk S = true ∧ ndOk N = true ∧ pkOk C = true := by
  unfold reachL trimL at h
  split at h
  · rename_i hh
    rw [Bool.and_eq_true, Bool.and_eq_true] at hh
    exact ⟨hh.1.1, hh.1.2, hh.2⟩
  · simp at h
/-- Each name that is needed is picked. -/
theorem reach_picked {S : List Rel} {N : List Nd} {C : List Pk} {z : Int} (h : z ∈ reachL S N C) : ∃ a b c d, pkOf C z = some (a, b, c, d) := by
  obtain ⟨hS, hN, hC⟩ := reach_ok h
  obtain ⟨x, h1, rfl⟩ := (reach_mem hS hN hC z).1 h
  obtain ⟨x1, a, b, c, d⟩ := x
  refine ⟨a, b, c, d, ?_⟩
  unfold pkOf
  rw [if_pos hC]
  exact get_some (lo := 0) hC h1.mem
/-- Fewer needs need no more. -/
theorem reach_less {S : List Rel} {N : List Nd} {C : List Pk} {z : Int} (k : Nat) (hN : ndOk N = true) (h : z ∈ reachL S (N.take k) C) : z ∈ reachL S N C := by
  obtain ⟨hS, hN', hC⟩ := reach_ok h
  obtain ⟨x, h1, h2⟩ := (reach_mem hS hN' hC z).1 h
  exact (reach_mem hS hN hC z).2 ⟨x, h1.more (fun n hn => List.mem_of_mem_take hn) (fun x hx => hx), h2⟩
theorem end_ok {S : List Rel} {N : List Nd} {C : List Pk} (hS : ∀ q ∈ S, q.2.2.2.length ≤ 5) : ∀ (f i : Nat) (st : St), OkK S N C st → OkK S N C (runK S C f i st)
  | 0, _, _, h => h
  | f + 1, i, st, h => by
    rcases hn : st.2[i]? with _ | n
    · rw [runK_end (List.getElem?_eq_none_iff.1 hn)]
      exact h
    · rw [runK_step hn]
      exact end_ok hS f (i + 1) _ (passK_ok hS n.1 C 0 st h)
theorem end_flags {S : List Rel} {N : List Nd} {C : List Pk} (hS : ∀ q ∈ S, q.2.2.2.length ≤ 5) : (endK S N C).1.length = C.length := (end_ok hS 200 0 (startK C N) OkK.start).flags
theorem came_whole : ∀ {C : List Pk} {c : List Bool}, c.length = C.length → (∀ j, j < C.length → c.getD j true = true) → cameL C c = C
  | [], _, _, _ => by simp [cameL]
  | x :: t, [], h, _ => by simp at h
  | x :: t, b :: c, h, hf => by
    have hb : b = true := by simpa using hf 0 (by simp)
    have ih := came_whole (C := t) (c := c) (by simpa using h) (fun j hj => by simpa using hf (j + 1) (by simpa using hj))
    show (if b = true then [x] else []) ++ cameL t c = x :: t
    rw [if_pos hb, ih]
    rfl
/-- Where all picks are needed, the walk finds them all. -/
theorem came_all {S : List Rel} {N : List Nd} {C : List Pk} (hS : shOk S = true) (hN : ndOk N = true) (hC : pkOk C = true) (h : ∀ x ∈ C, Up S N C x) : cameL C (endK S N C).1 = C := by
  refine came_whole (end_flags (sh_five hS)) fun j hj => ?_
  have hm := (came_up (sh_five hS) (nd_len hN) (by have := pk_len hC; omega) C[j]).2 (h _ (List.getElem_mem hj))
  have hf := came_flag (c := (endK S N C).1) (lo := 0) hC (List.getElem?_eq_getElem hj) (by rw [end_flags (sh_five hS)]; exact hj)
  rw [← hf]
  unfold hasP
  rw [List.any_eq_true]
  exact ⟨_, hm, by simp⟩
/-- A name is picked once. -/
theorem pk_one {n : Int} : ∀ {C : List Pk} {lo : Int} {u v : V4}, pkFrom lo C = true → (n, u) ∈ C → (n, v) ∈ C → u = v := fun {C lo u v} h h1 h2 => by
  have e1 := get_some h h1
  rw [get_some h h2] at e1
  injection e1 with e1
  exact e1.symm
theorem met_mem {C : List Pk} {n : Nd} (h : metP C n = true) : ∃ v : V4, (n.1, v) ∈ C ∧ hasL n.2 v.1 v.2.1 v.2.2.1 v.2.2.2 = true := by
  unfold metP at h
  rcases hg : pkGet n.1 C with _ | v
  · rw [hg] at h; simp at h
  · rw [hg] at h
    exact ⟨v, get_mem hg, h⟩
theorem met_of {C : List Pk} {n : Nd} {v : V4} {lo : Int} (hC : pkFrom lo C = true) (hm : (n.1, v) ∈ C) (h : hasL n.2 v.1 v.2.1 v.2.2.1 v.2.2.2 = true) : metP C n = true := by
  unfold metP
  rw [get_some hC hm]
  exact h
/-- What is left of a choice without what is not needed. -/
structure Fine (S : List Rel) (N : List Nd) (H C : List Pk) : Prop where
  sh : shOk S = true
  nd : ndOk N = true
  held : pkOk H = true
  pk : pkOk C = true
  there : ∀ x ∈ C, thereP S x = true
  allow : ∀ x ∈ C, allowP S H x = true
  met : ∀ n ∈ N, metP C n = true
  inner : ∀ x ∈ C, ∀ n ∈ ndsOf S x, metP C n = true
theorem Fine.of {S : List Rel} {N : List Nd} {H C : List Pk} (h : faultF S N H C = 6 ∨ faultF S N H C = 0) : Fine S N H C := by
  unfold faultF at h
  by_cases h0 : (shOk S && (ndOk N && (pkOk H && pkOk C))) = true
  · rw [if_pos h0] at h
    by_cases h1 : C.all (thereP S) = true
    · rw [if_pos h1] at h
      by_cases h2 : C.all (allowP S H) = true
      · rw [if_pos h2] at h
        by_cases h3 : N.all (metP C) = true
        · rw [if_pos h3] at h
          by_cases h4 : C.all (innerP S C) = true
          · simp only [Bool.and_eq_true] at h0
            exact ⟨h0.1, h0.2.1, h0.2.2.1, h0.2.2.2, List.all_eq_true.1 h1, List.all_eq_true.1 h2, List.all_eq_true.1 h3, fun x hx => List.all_eq_true.1 (List.all_eq_true.1 h4 x hx)⟩
          · rw [if_neg h4] at h; rcases h with h | h <;> cases h
        · rw [if_neg h3] at h; rcases h with h | h <;> cases h
      · rw [if_neg h2] at h; rcases h with h | h <;> cases h
    · rw [if_neg h1] at h; rcases h with h | h <;> cases h
  · rw [if_neg h0] at h; rcases h with h | h <;> cases h
theorem Fine.fault {S : List Rel} {N : List Nd} {H C : List Pk} (h : Fine S N H C) : faultF S N H C = if (cameL C (endK S N C).1).length < C.length then 6 else 0 := by
  unfold faultF
  rw [if_pos (by rw [h.sh, h.nd, h.held, h.pk]; rfl), if_pos (List.all_eq_true.2 h.there), if_pos (List.all_eq_true.2 h.allow), if_pos (List.all_eq_true.2 h.met),
    if_pos (List.all_eq_true.2 fun x hx => by unfold innerP; exact List.all_eq_true.2 (h.inner x hx))]
theorem Fine.needed {S : List Rel} {N : List Nd} {H C : List Pk} (h : Fine S N H C) (h0 : faultF S N H C = 0) : ∀ x ∈ C, Up S N C x := by
  rw [h.fault] at h0
  split at h0
  · cases h0
  · rename_i hn
    intro x hx
    refine (came_up (sh_five h.sh) (nd_len h.nd) (by have := pk_len h.pk; omega) x).1 ?_
    have hl := cameL_len C (endK S N C).1
    have hfl := end_flags (N := N) (C := C) (sh_five h.sh)
    have key : ∀ {C : List Pk} {c : List Bool}, c.length = C.length → ¬ (cameL C c).length < C.length → cameL C c = C := by
      intro C
      induction C with
      | nil => intro c _ _; simp [cameL]
      | cons y t ih =>
        intro c hc hlt
        cases c with
        | nil => simp at hc
        | cons b c =>
          have hl := cameL_len t c
          have hlt' : ¬ ((if b = true then [y] else []) ++ cameL t c).length < (y :: t).length := hlt
          show (if b = true then [y] else []) ++ cameL t c = y :: t
          by_cases hb : b = true
          · rw [if_pos hb] at hlt' ⊢
            rw [ih (by simpa using hc) (by simp at hlt'; omega)]
            rfl
          · rw [if_neg hb] at hlt'
            simp at hlt'
            omega
    rw [key hfl hn]
    exact hx
theorem Fine.zero {S : List Rel} {N : List Nd} {H C : List Pk} (h : Fine S N H C) (hu : ∀ x ∈ C, Up S N C x) : faultF S N H C = 0 := by
  rw [h.fault, came_all h.sh h.nd h.pk hu, if_neg (Nat.lt_irrefl _)]
theorem trim_came {S : List Rel} {N : List Nd} {C : List Pk} (hS : shOk S = true) (hN : ndOk N = true) (hC : pkOk C = true) : trimL S N C = cameL C (endK S N C).1 := by
  unfold trimL
  rw [hS, hN, hC, if_pos (by rfl)]
theorem trim_mem {S : List Rel} {N : List Nd} {C : List Pk} (hS : shOk S = true) (hN : ndOk N = true) (hC : pkOk C = true) (x : Pk) : x ∈ trimL S N C ↔ Up S N C x := by
  rw [trim_came hS hN hC]
  exact came_up (sh_five hS) (nd_len hN) (by have := pk_len hC; omega) x
theorem trim_ok {S : List Rel} {N : List Nd} {C : List Pk} : pkOk (trimL S N C) = true := by
  unfold trimL
  split
  · rename_i h
    rw [Bool.and_eq_true] at h
    exact came_from (lo := 0) h.2
  · rfl
/-- Trimmed twice is trimmed once. -/
theorem trim_twice (S : List Rel) (N : List Nd) (C : List Pk) : trimL S N (trimL S N C) = trimL S N C := by
  by_cases h : (shOk S && ndOk N && pkOk C) = true
  · rw [Bool.and_eq_true, Bool.and_eq_true] at h
    rw [trim_came h.1.1 h.1.2 trim_ok]
    refine came_all h.1.1 h.1.2 trim_ok fun x hx => ?_
    exact ((trim_mem h.1.1 h.1.2 h.2 x).1 hx).less fun y hy => (trim_mem h.1.1 h.1.2 h.2 y).2 hy
  · have e : trimL S N C = [] := by unfold trimL; rw [if_neg h]
    rw [e]
    unfold trimL
    split <;> simp [cameL]
/-- Picks that meet all needs but are not all needed are a choice when these are left out. -/
theorem trim_fine {S : List Rel} {N : List Nd} {H C : List Pk} (h6 : faultF S N H C = 6) : faultF S N H (trimL S N C) = 0 := by
  have h := Fine.of (.inl h6)
  have hm := trim_mem h.sh h.nd h.pk
  have hsub : ∀ x ∈ trimL S N C, x ∈ C := fun x hx => ((hm x).1 hx).mem
  refine Fine.zero ⟨h.sh, h.nd, h.held, trim_ok, fun x hx => h.there x (hsub x hx), fun x hx => h.allow x (hsub x hx), fun n hn => ?_, fun x hx n hn => ?_⟩ fun x hx => ((hm x).1 hx).less fun y hy => (hm y).2 hy
  · obtain ⟨v, h1, h2⟩ := met_mem (h.met n hn)
    exact met_of (lo := 0) trim_ok ((hm _).2 (.own hn h1 rfl)) h2
  · obtain ⟨v, h1, h2⟩ := met_mem (h.inner x (hsub x hx) n hn)
    exact met_of (lo := 0) trim_ok ((hm _).2 (.dep ((hm x).1 hx) hn h1 rfl)) h2
/-- One pick less is not fine. -/
theorem less_fault {S : List Rel} {N : List Nd} {H C : List Pk} {k : Nat} (hk : k < C.length) (h0 : faultF S N H C = 0) : ¬ faultF S N H (C.take k ++ C.drop (k + 1)) = 0 := by
  intro h1
  have h := Fine.of (.inr h0)
  have g := Fine.of (.inr h1)
  have hsub : ∀ x ∈ C.take k ++ C.drop (k + 1), x ∈ C := fun x hx => by
    rcases List.mem_append.1 hx with hx | hx
    · exact List.mem_of_mem_take hx
    · exact List.mem_of_mem_drop hx
  have same : ∀ {n : Nd} {y : Pk}, metP (C.take k ++ C.drop (k + 1)) n = true → y ∈ C → y.1 = n.1 → y ∈ C.take k ++ C.drop (k + 1) := fun {n y} hm hy he => by
    obtain ⟨v, h2, _⟩ := met_mem hm
    obtain ⟨y1, y2⟩ := y
    simp only at he
    subst he
    rw [pk_one (lo := 0) h.pk hy (hsub _ h2)]
    exact h2
  have all : ∀ y, Up S N C y → y ∈ C.take k ++ C.drop (k + 1) := fun y hy => by
    induction hy with
    | own h2 h3 h4 => exact same (g.met _ h2) h3 h4
    | dep _ h3 h4 h5 ih => exact same (g.inner _ ih _ h3) h4 h5
  have hx := all C[k] (h.needed h0 _ (List.getElem_mem hk))
  have asc : ∀ {C : List Pk} {lo : Int} (i j : Nat) (hi : i < C.length) (hj : j < C.length), pkFrom lo C = true → C[i].1 = C[j].1 → i = j := by
    intro C
    induction C with
    | nil => intro lo i j hi; simp at hi
    | cons x t ih =>
      intro lo i j hi hj hf he
      simp only [pkFrom, Bool.and_eq_true, decide_eq_true_eq] at hf
      cases i with
      | zero =>
        cases j with
        | zero => rfl
        | succ j =>
          have := pk_low hf.2.2 _ (List.getElem_mem (by simpa using hj : j < t.length))
          simp only [List.getElem_cons_zero, List.getElem_cons_succ] at he
          omega
      | succ i =>
        cases j with
        | zero =>
          have := pk_low hf.2.2 _ (List.getElem_mem (by simpa using hi : i < t.length))
          simp only [List.getElem_cons_zero, List.getElem_cons_succ] at he
          omega
        | succ j => rw [ih i j (by simpa using hi) (by simpa using hj) hf.2.2 (by simpa using he)]
  rcases List.mem_append.1 hx with hx | hx
  · obtain ⟨i, hi, he⟩ := List.getElem_of_mem hx
    rw [List.getElem_take] at he
    have hi' : i < k := by simp at hi; omega
    have := asc (lo := 0) i k (by omega) hk h.pk (by rw [he])
    omega
  · obtain ⟨i, hi, he⟩ := List.getElem_of_mem hx
    rw [List.getElem_drop] at he
    have hi' : k + 1 + i < C.length := by simp at hi; omega
    have := asc (lo := 0) (k + 1 + i) k hi' hk h.pk (by rw [he])
    omega
/-- All of a choice that is fine is needed; and it is fine where it is held itself. -/
theorem fine_all {S : List Rel} {N : List Nd} {H C : List Pk} (h0 : faultF S N H C = 0) : (reachL S N C).length = C.length ∧ faultF S N C C = 0 := by
  have h := Fine.of (.inr h0)
  refine ⟨?_, Fine.zero ⟨h.sh, h.nd, h.pk, h.pk, h.there, fun x hx => ?_, h.met, h.inner⟩ (h.needed h0)⟩
  · unfold reachL
    rw [List.length_map, trim_came h.sh h.nd h.pk, came_all h.sh h.nd h.pk (h.needed h0)]
  · unfold allowP heldP
    obtain ⟨x1, x2⟩ := x
    rw [decide_eq_true (get_some (lo := 0) h.pk hx)]
    simp
end Rch
end Go.Proofs.Ytgnjhmmedogcoaa

/- A shelf on which one release is withdrawn, as plain facts: it is as fine as before, each place is found as before, and the withdrawn version fits nothing. No condition. -/
namespace Go.Proofs.Ytgnjhmmedogcoaa
open Go.RowKit Go.Sort

namespace Gof
open Copy Nup
/-- A release without its flag. -/
def er (q : Rel) : Int × (Int × Int × Int × Int) × List Nd := (q.1, q.2.1, q.2.2.2)
theorem relOk_er {p q : Rel} (h : er p = er q) : relOk p = relOk q := by
  obtain ⟨x, v, f, M⟩ := p
  obtain ⟨x', v', f', M'⟩ := q
  simp only [er, Prod.mk.injEq] at h
  obtain ⟨rfl, rfl, rfl⟩ := h
  rfl
theorem relLess_er {p q p' q' : Rel} (h : er p = er p') (h' : er q = er q') : relLess p q = relLess p' q' := by
  obtain ⟨x, v, f, M⟩ := p
  obtain ⟨x', v', f', M'⟩ := q
  obtain ⟨y, u, g, N⟩ := p'
  obtain ⟨y', u', g', N'⟩ := q'
  simp only [er, Prod.mk.injEq] at h h'
  obtain ⟨rfl, rfl, rfl⟩ := h
  obtain ⟨rfl, rfl, rfl⟩ := h'
  rfl
theorem shFrom_er : ∀ (S T : List Rel) (p p' : Option Rel), S.map er = T.map er → p.map er = p'.map er → shFrom p S = shFrom p' T
  | [], [], _, _, _, _ => rfl
  | [], _ :: _, _, _, h, _ => by simp at h
  | _ :: _, [], _, _, h, _ => by simp at h
  | x :: S, y :: T, p, p', h, hp => by
    simp only [List.map_cons, List.cons.injEq] at h
    have ih := shFrom_er S T (some x) (some y) h.2 (by simp [h.1])
    unfold shFrom
    rw [ih, relOk_er h.1]
    rcases p with _ | p
    · rcases p' with _ | p'
      · rfl
      · simp at hp
    · rcases p' with _ | p'
      · simp at hp
      · simp only [Option.map_some, Option.some.injEq] at hp
        show (relOk y && (relLess p x && _)) = (relOk y && (relLess p' y && _))
        rw [relLess_er hp h.1]
theorem shOk_er {S T : List Rel} (h : S.map er = T.map er) : shOk S = shOk T := by
  unfold shOk
  rw [shFrom_er S T none none h rfl]
  have := congrArg List.length h
  simp only [List.length_map] at this
  rw [this]
theorem shFind_er (n : Int) (v : Int × Int × Int × Int) : ∀ (S T : List Rel) (k : Nat), S.map er = T.map er → shFind n v k S = shFind n v k T
  | [], [], _, _ => rfl
  | [], _ :: _, _, h => by simp at h
  | _ :: _, [], _, h => by simp at h
  | x :: S, y :: T, k, h => by
    simp only [List.map_cons, List.cons.injEq] at h
    have ih := shFind_er n v S T (k + 1) h.2
    have e1 : x.1 = y.1 := congrArg (fun z => z.1) h.1
    have e2 : x.2.1 = y.2.1 := congrArg (fun z => z.2.1) h.1
    unfold shFind
    rw [ih, e1, e2]
theorem gone_er {S : List Rel} {j : Nat} (hj : j < S.length) : (goneL S j).map er = S.map er := by
  unfold goneL
  rw [List.getElem?_eq_getElem hj]
  apply List.ext_getElem?
  intro i
  simp only [List.getElem?_map, List.getElem?_set]
  by_cases h : j = i
  · subst h
    rw [if_pos rfl, if_pos hj, List.getElem?_eq_getElem hj]
    rfl
  · rw [if_neg h]
/-- The order of releases by one number. -/
def key (q : Rel) : Int := q.1 * 20000000 + rk q.2.1.1 q.2.1.2.1 q.2.1.2.2.1 q.2.1.2.2.2
theorem rk_few {a b c d : Int} (h : vOk a b c d = true) : 0 ≤ rk a b c d ∧ rk a b c d ≤ 9999999 := by
  have := vOk_iff.1 h
  unfold rk
  omega
theorem ok_ver {q : Rel} (h : relOk q = true) : vOk q.2.1.1 q.2.1.2.1 q.2.1.2.2.1 q.2.1.2.2.2 = true := by
  unfold relOk at h
  simp only [Bool.and_eq_true] at h
  exact h.2.1
theorem less_key {p q : Rel} (hp : relOk p = true) (hq : relOk q = true) (h : relLess p q = true) : key p < key q := by
  have h1 := rk_few (ok_ver hp)
  have h2 := rk_few (ok_ver hq)
  unfold relLess at h
  unfold key
  split at h
  · rename_i e
    unfold vLess at h
    simp only [Bool.and_eq_true, decide_eq_true_eq] at h
    have h3 := h.2.2
    unfold vRank at h3
    rw [if_pos (ok_ver hp), if_pos (ok_ver hq)] at h3
    rw [e]
    omega
  · have h3 := of_decide_eq_true h
    omega
theorem after_key : ∀ (S : List Rel) (p : Rel), relOk p = true → shFrom (some p) S = true → ∀ q ∈ S, key p < key q
  | [], _, _, _, q, hq => by simp at hq
  | x :: S, p, hp, h, q, hq => by
    unfold shFrom at h
    simp only [Bool.and_eq_true] at h
    have h1 := less_key hp h.1 h.2.1
    rcases List.mem_cons.1 hq with rfl | hq
    · exact h1
    · have := after_key S x h.1 h.2.2 q hq
      omega
theorem keys_differ : ∀ (S : List Rel) (p : Option Rel), shFrom p S = true → ∀ i j (hi : i < S.length) (hj : j < S.length), key S[i] = key S[j] → i = j
  | [], _, _, i, _, hi, _, _ => by simp at hi
  | x :: S, p, h, i, j, hi, hj, e => by
    unfold shFrom at h
    simp only [Bool.and_eq_true] at h
    have ha := after_key S x h.1 h.2.2
    rcases i with _ | i
    · rcases j with _ | j
      · rfl
      · have := ha (S[j]'(by simpa using hj)) (List.getElem_mem _)
        simp only [List.getElem_cons_zero, List.getElem_cons_succ] at e
        omega
    · rcases j with _ | j
      · have := ha (S[i]'(by simpa using hi)) (List.getElem_mem _)
        simp only [List.getElem_cons_zero, List.getElem_cons_succ] at e
        omega
      · have := keys_differ S (some x) h.2.2 i j (by simpa using hi) (by simpa using hj) (by simpa using e)
        omega
theorem one_rank {a b c d a' b' c' d' : Int} (h : hasL (oneL a b c d) a' b' c' d' = true) : vOk a b c d = true ∧ rk a' b' c' d' = rk a b c d := by
  unfold hasL at h
  simp only [Bool.and_eq_true] at h
  have h1 := h.2.2
  unfold oneL at h1
  split at h1
  · rename_i hv
    simp only [inL, List.any_cons, List.any_nil, Bool.or_false] at h1
    have := inB_iff.1 h1
    exact ⟨hv, by omega⟩
  · simp [inL] at h1
theorem fit_nil {n : Int} {L : Sps} : ∀ (S : List Rel) (k : Nat), (∀ q ∈ S, fitB n L q = false) → fitFrom n L k S = []
  | [], _, _ => rfl
  | x :: S, k, h => by
    unfold fitFrom
    rw [if_neg (by rw [h x (List.mem_cons_self ..)]; decide), fit_nil S (k + 1) fun q hq => h q (List.mem_cons_of_mem _ hq)]
    rfl
/-- What the law asks of a shelf on which the release of a name and a version is withdrawn. -/
theorem gone_law {S : List Rel} {n a b c d : Int} {j : Nat} (hj : j < S.length) (h : shAt S n (a, b, c, d) = (j : Int)) :
    shOk (goneL S j) = true ∧ shAt (goneL S j) n (a, b, c, d) = (j : Int) ∧ shFits (goneL S j) n (oneL a b c d) = [] := by
  have hS : shOk S = true := by
    rw [← Bool.not_eq_false]
    intro hf
    unfold shAt at h
    rw [hf, if_neg (by decide)] at h
    omega
  have he := gone_er hj
  have hG : shOk (goneL S j) = true := by rw [shOk_er he, hS]
  have hf : shFind n (a, b, c, d) 0 S = (j : Int) := by
    unfold shAt at h
    rwa [if_pos hS] at h
  refine ⟨hG, by unfold shAt; rw [if_pos hG, shFind_er n _ _ _ 0 he, hf], ?_⟩
  have hat : ∀ (S : List Rel) (k : Nat) (j : Nat), shFind n (a, b, c, d) k S = (j : Int) → ∃ i, ∃ h : i < S.length, j = k + i ∧ S[i].1 = n ∧ S[i].2.1 = (a, b, c, d) := by
    intro S
    induction S with
    | nil => intro k j h; unfold shFind at h; omega
    | cons x S ih =>
      intro k j h
      unfold shFind at h
      split at h
      · rename_i e
        exact ⟨0, by simp, by omega, e.1, e.2⟩
      · obtain ⟨i, hi, e, h1, h2⟩ := ih (k + 1) j h
        exact ⟨i + 1, by simpa using hi, by omega, by simpa using h1, by simpa using h2⟩
  obtain ⟨i0, hi0, e0, hn, hv⟩ := hat S 0 j hf
  obtain rfl : j = i0 := by omega
  unfold shFits
  split
  · refine fit_nil _ _ fun q hq => ?_
    obtain ⟨i, hi, rfl⟩ := List.getElem_of_mem hq
    by_cases hij : j = i
    · subst hij
      have e : (goneL S j)[j] = (S[j].1, S[j].2.1, true, S[j].2.2.2) := by
        have h1 : (goneL S j)[j]? = some (S[j].1, S[j].2.1, true, S[j].2.2.2) := by
          unfold goneL
          rw [List.getElem?_eq_getElem hj]
          exact List.getElem?_set_self hj
        exact (List.getElem?_eq_some_iff.1 h1).2
      rw [e]
      simp [fitB]
    · have hlen : (goneL S j).length = S.length := by
        have := congrArg List.length he
        simpa using this
      have hiS : i < S.length := by omega
      have e : (goneL S j)[i] = S[i] := by
        have h1 : (goneL S j)[i]? = some S[i] := by
          unfold goneL
          rw [List.getElem?_eq_getElem hj]
          exact (List.getElem?_set_ne hij).trans (List.getElem?_eq_getElem hiS)
        exact (List.getElem?_eq_some_iff.1 h1).2
      rw [e, ← Bool.not_eq_true]
      intro hf'
      unfold fitB at hf'
      simp only [Bool.and_eq_true, decide_eq_true_eq] at hf'
      obtain ⟨_, hr⟩ := one_rank hf'.2.2
      have hk : key S[i] = key S[j] := by
        unfold key
        rw [hf'.1, hn, hr, hv]
      have h1 := hS
      unfold shOk at h1
      rw [Bool.and_eq_true] at h1
      exact hij (keys_differ S none h1.1 i j hiS hj hk).symm
  · rfl
end Gof
end Go.Proofs.Ytgnjhmmedogcoaa

/- A shelf to which one release is put, as plain facts: the release is found at the place at which it was put, and without it the shelf is as before. No condition. -/
namespace Go.Proofs.Ytgnjhmmedogcoaa
open Go.RowKit Go.Sort

namespace Pof
open Copy Gof
theorem put_len (x : Rel) (S : List Rel) : (putL x S).length = S.length + 1 := by
  have := befL_le x S
  unfold putL
  simp
  omega
theorem put_at (x : Rel) (S : List Rel) : (putL x S)[befL x S]? = some x := by
  have h := befL_le x S
  unfold putL
  rw [List.append_assoc, List.getElem?_append_right (by simp; omega)]
  simp [Nat.min_eq_left h]
theorem put_take (x : Rel) (S : List Rel) : (putL x S).take (befL x S) = S.take (befL x S) := by
  have h := befL_le x S
  unfold putL
  rw [List.append_assoc, List.take_append_of_le_length (by simp; omega), List.take_take, Nat.min_self]
theorem put_drop (x : Rel) (S : List Rel) : (putL x S).drop (befL x S + 1) = S.drop (befL x S) := by
  have h := befL_le x S
  have e : (S.take (befL x S) ++ [x]).length = befL x S + 1 := by simp; omega
  unfold putL
  rw [← e, List.drop_left]
theorem find_at (n : Int) (v : Int × Int × Int × Int) : ∀ (S : List Rel) (k i : Nat) (hi : i < S.length), S[i].1 = n → S[i].2.1 = v → ∃ j, ∃ h : j < S.length, shFind n v k S = ((k + j : Nat) : Int) ∧ S[j].1 = n ∧ S[j].2.1 = v
  | [], _, i, hi, _, _ => by simp at hi
  | x :: S, k, i, hi, h1, h2 => by
    unfold shFind
    by_cases e : x.1 = n ∧ x.2.1 = v
    · rw [if_pos e]
      exact ⟨0, by simp, by simp, e.1, e.2⟩
    · rw [if_neg e]
      rcases i with _ | i
      · exact absurd ⟨by simpa using h1, by simpa using h2⟩ e
      · obtain ⟨j, hj, hf, g1, g2⟩ := find_at n v S (k + 1) i (by simpa using hi) (by simpa using h1) (by simpa using h2)
        exact ⟨j + 1, by simpa using hj, by rw [hf]; omega, by simpa using g1, by simpa using g2⟩
/-- What the law asks of a shelf to which a release was put. -/
theorem put_law {x : Rel} {S : List Rel} (h : putOk x S = true) : shOk (putL x S) = true ∧ shAt (putL x S) x.1 x.2.1 = ((befL x S : Nat) : Int) ∧ befL x S < (putL x S).length ∧
    ((putL x S).drop (befL x S)).take 1 = [x] ∧ (putL x S).take (befL x S) ++ (putL x S).drop (befL x S + 1) = S := by
  unfold putOk at h
  rw [Bool.and_eq_true] at h
  have hG := h.2
  have hk := befL_le x S
  have hlt : befL x S < (putL x S).length := by rw [put_len]; omega
  have hx : (putL x S)[befL x S] = x := (List.getElem?_eq_some_iff.1 (put_at x S)).2
  refine ⟨hG, ?_, hlt, ?_, by rw [put_take, put_drop, List.take_append_drop]⟩
  · obtain ⟨j, hj, hf, h1, h2⟩ := find_at x.1 x.2.1 (putL x S) 0 (befL x S) hlt (by rw [hx]) (by rw [hx])
    unfold shAt
    rw [if_pos hG, hf, Nat.zero_add]
    have hS := hG
    unfold shOk at hS
    rw [Bool.and_eq_true] at hS
    have := keys_differ (putL x S) none hS.1 j (befL x S) hj hlt (by unfold key; rw [h1, h2, hx])
    rw [this]
  · rw [List.drop_eq_getElem_cons hlt, hx]
    rfl
end Pof
end Go.Proofs.Ytgnjhmmedogcoaa
