/- Plain facts on which picks are needed: by places (the program) and by names (the model) it is the same. No statement of the program is in it. -/
import Derived.Test.YtgenjbeamlffmaaCpi
import Derived.Test.YtgenjbeamlffmaaPkfact
namespace Go.Proofs.Ytgenjbeamlffmaa

namespace Cpu
open Nup Pkf
def hasP (x : Int) (L : List Pk) : Bool := L.any fun q => decide (q.1 = x)
theorem hasP_cons (x : Int) (q : Pk) (L : List Pk) : hasP x (q :: L) = (decide (q.1 = x) || hasP x L) := rfl
theorem hasP_app (x : Int) (A B : List Pk) : hasP x (A ++ B) = (hasP x A || hasP x B) := by simp [hasP]
theorem hasP_low {L : List Pk} {lo x : Int} (h : pkFrom lo L = true) (hx : x < lo) : hasP x L = false := by
  rw [← Bool.not_eq_true]
  intro hh
  unfold hasP at hh
  rw [List.any_eq_true] at hh
  obtain ⟨q, hq, e⟩ := hh
  have := from_low h q hq
  have := of_decide_eq_true e
  omega
theorem came_mem : ∀ {C : List Pk} {c : List Bool} {x : Pk}, x ∈ cameL C c → x ∈ C
  | [], c, x, h => by simp [cameL] at h
  | y :: t, [], x, h => by simp [cameL] at h
  | y :: t, b :: c, x, h => by
    simp only [cameL] at h
    rcases List.mem_append.1 h with h | h
    · split at h
      · have : x = y := by simpa using h
        rw [this]
        simp
      · simp at h
    · exact List.mem_cons_of_mem _ (came_mem h)
theorem from_mono {L : List Pk} {lo lo' : Int} (h : pkFrom lo L = true) (hl : lo' ≤ lo) : pkFrom lo' L = true := by
  cases L with
  | nil => rfl
  | cons x t =>
    simp only [pkFrom, Bool.and_eq_true, decide_eq_true_eq] at h ⊢
    exact ⟨⟨by omega, h.1.2⟩, h.2⟩
theorem came_from : ∀ {C : List Pk} {c : List Bool} {lo : Int}, pkFrom lo C = true → pkFrom lo (cameL C c) = true
  | [], c, lo, _ => by simp [cameL, pkFrom]
  | y :: t, [], lo, _ => by simp [cameL, pkFrom]
  | y :: t, b :: c, lo, h => by
    simp only [pkFrom, Bool.and_eq_true, decide_eq_true_eq] at h
    have ih := came_from (c := c) h.2.2
    cases b
    · show pkFrom lo ([] ++ cameL t c) = true
      rw [List.nil_append]
      exact from_mono ih (by omega)
    · show pkFrom lo ([y] ++ cameL t c) = true
      simp only [List.singleton_append, pkFrom, Bool.and_eq_true, decide_eq_true_eq]
      exact ⟨h.1, h.2.1, ih⟩

theorem passK_none {S : List Rel} {nm : Int} : ∀ {t : List Pk} {i : Nat} {st : St}, (∀ x ∈ t, ¬ x.1 = nm) → passK S nm i t st = st
  | [], _, _, _ => rfl
  | x :: t, i, st, h => by
    show passK S nm (i + 1) t (hitK S nm st i x) = st
    rw [hitK_no (.inr (h x (by simp)))]
    exact passK_none fun y hy => h y (List.mem_cons_of_mem _ hy)
theorem get_no : ∀ {t : List Pk} {n : Int}, pkGet n t = none → ∀ x ∈ t, ¬ x.1 = n
  | [], _, _, x, h => by simp at h
  | y :: t, n, h, x, hx => by
    unfold pkGet at h
    split at h
    · cases h
    · rename_i hne
      rcases List.mem_cons.1 hx with rfl | hx
      · exact hne
      · exact get_no h x hx
theorem passK_get {S : List Rel} {n : Int} {v : V4} : ∀ {t : List Pk} {lo : Int} (i : Nat), pkFrom lo t = true → pkGet n t = some v → ∃ j, t[j]? = some (n, v) ∧ ∀ st, passK S n i t st = hitK S n st (i + j) (n, v)
  | [], _, _, _, h => by simp [pkGet] at h
  | x :: t, lo, i, hf, h => by
    simp only [pkFrom, Bool.and_eq_true, decide_eq_true_eq] at hf
    unfold pkGet at h
    split at h
    · rename_i e
      have hx : x = (n, v) := by
        cases h
        rw [← e]
      subst hx
      refine ⟨0, rfl, fun st => ?_⟩
      show passK S n (i + 1) t (hitK S n st i (n, v)) = _
      rw [passK_none fun y hy e => by have := from_low hf.2.2 y hy; simp only at this; omega, Nat.add_zero]
    · rename_i hne
      obtain ⟨j, h1, h2⟩ := passK_get (i + 1) hf.2.2 h
      refine ⟨j + 1, by simpa using h1, fun st => ?_⟩
      show passK S n (i + 1) t (hitK S n st i x) = _
      rw [hitK_no (.inr hne), h2, show i + 1 + j = i + (j + 1) by omega]

theorem came_flag : ∀ {C : List Pk} {c : List Bool} {lo : Int} {j : Nat} {x : Pk}, pkFrom lo C = true → C[j]? = some x → j < c.length → hasP x.1 (cameL C c) = c.getD j true
  | [], c, _, j, x, _, h, _ => by simp at h
  | y :: t, [], _, j, x, _, _, hc => by simp at hc
  | y :: t, b :: c, lo, 0, x, hf, h, _ => by
    obtain rfl : y = x := by simpa using h
    simp only [pkFrom, Bool.and_eq_true, decide_eq_true_eq] at hf
    have hn := hasP_low (x := y.1) (came_from (c := c) hf.2.2) (by omega)
    show hasP y.1 ((if b = true then [y] else []) ++ cameL t c) = b
    rw [hasP_app, hn]
    cases b <;> simp [hasP]
  | y :: t, b :: c, lo, j + 1, x, hf, h, hc => by
    simp only [pkFrom, Bool.and_eq_true, decide_eq_true_eq] at hf
    have hx : t[j]? = some x := by simpa using h
    have hl := from_low hf.2.2 x (List.mem_of_getElem? hx)
    have ih := came_flag hf.2.2 hx (c := c) (by simpa using hc)
    show hasP x.1 ((if b = true then [y] else []) ++ cameL t c) = _
    rw [hasP_app, ih]
    have hne : decide (y.1 = x.1) = false := decide_eq_false (by omega)
    cases b <;> simp [hasP, hne]
theorem came_other : ∀ {C : List Pk} {c : List Bool} {j : Nat} {x : Pk} {i : Int}, C[j]? = some x → ¬ x.1 = i → ∀ b, hasP i (cameL C (c.set j b)) = hasP i (cameL C c)
  | [], c, j, x, i, h, _, b => by simp at h
  | y :: t, [], j, x, i, _, _, b => by simp
  | y :: t, d :: c, 0, x, i, h, hne, b => by
    obtain rfl : y = x := by simpa using h
    have hz : decide (y.1 = i) = false := decide_eq_false hne
    show hasP i ((if b = true then [y] else []) ++ cameL t c) = hasP i ((if d = true then [y] else []) ++ cameL t c)
    rw [hasP_app, hasP_app]
    cases b <;> cases d <;> simp [hasP, hz]
  | y :: t, d :: c, j + 1, x, i, h, hne, b => by
    show hasP i ((if d = true then [y] else []) ++ cameL t (c.set j b)) = hasP i ((if d = true then [y] else []) ++ cameL t c)
    rw [hasP_app, hasP_app, came_other (show t[j]? = some x by simpa using h) hne b]

/-- Which names below 8 picks have. -/
def seenK (L : List Pk) : List Bool := (List.range 8).map fun (m : Nat) => hasP (m : Int) L
theorem seenK_len (L : List Pk) : (seenK L).length = 8 := by simp [seenK]
theorem seenK_at (L : List Pk) {m : Nat} (h : m < 8) : (seenK L).getD m true = hasP (m : Int) L := by
  rw [List.getD_eq_getElem?_getD]
  simp [seenK, h]
theorem seenK_next {C : List Pk} {c : List Bool} {lo : Int} {j m : Nat} {v : V4} (hf : pkFrom lo C = true) (h : C[j]? = some ((m : Int), v)) (hm : m < 8) (hc : j < c.length) : (seenK (cameL C c)).set m true = seenK (cameL C (c.set j true)) := by
  apply List.ext_getElem?
  intro i
  by_cases hi : i < 8
  · by_cases him : i = m
    · subst him
      rw [List.getElem?_set_self (by rw [seenK_len]; exact hi)]
      have := came_flag (c := c.set j true) hf h (by simpa using hc)
      simp only at this
      have e : (c.set j true).getD j true = true := by rw [List.getD_eq_getElem?_getD, List.getElem?_set_self hc]; rfl
      rw [e] at this
      simp [seenK, hi, this]
    · rw [List.getElem?_set_ne (by omega)]
      have := came_other (c := c) h (i := (i : Int)) (show ¬ (m : Int) = (i : Int) by omega) true
      simp [seenK, hi, this]
  · rw [List.getElem?_eq_none (by rw [List.length_set, seenK_len]; omega), List.getElem?_eq_none (by rw [seenK_len]; omega)]

/-- The names below a number that picks have. -/
def npTo (L : List Pk) : Nat → List Int
  | 0 => []
  | k + 1 => npTo L k ++ (if hasP (k : Int) L = true then [(k : Int)] else [])
theorem npTo_len (L : List Pk) : ∀ k, (npTo L k).length ≤ k
  | 0 => Nat.le_refl _
  | k + 1 => by
    have := npTo_len L k
    unfold npTo
    split <;> simp <;> omega
theorem low_none : ∀ {L : List Pk} {lo k : Int}, pkFrom lo L = true → k ≤ lo → L.filter (fun q => decide (q.1 < k)) = [] := fun {L lo k} h hk => by
  rw [List.filter_eq_nil_iff]
  intro q hq
  have := from_low h q hq
  simp
  omega
theorem np_step : ∀ {L : List Pk} {lo k : Int}, pkFrom lo L = true → (L.filter (fun q => decide (q.1 < k + 1))).map (·.1) = (L.filter (fun q => decide (q.1 < k))).map (·.1) ++ (if hasP k L = true then [k] else [])
  | [], _, _, _ => rfl
  | x :: t, lo, k, h => by
    simp only [pkFrom, Bool.and_eq_true, decide_eq_true_eq] at h
    have ih := np_step (k := k) h.2.2
    rw [List.filter_cons, List.filter_cons, hasP_cons]
    by_cases h1 : x.1 < k
    · rw [if_pos (decide_eq_true (by omega)), if_pos (decide_eq_true h1), decide_eq_false (show ¬ x.1 = k by omega), Bool.false_or, List.map_cons, List.map_cons, ih]
      rfl
    · by_cases h2 : x.1 = k
      · rw [if_pos (decide_eq_true (by omega)), if_neg (by simp; omega), decide_eq_true h2, Bool.true_or, if_pos rfl, low_none h.2.2 (show k + 1 ≤ x.1 + 1 by omega), low_none h.2.2 (show k ≤ x.1 + 1 by omega)]
        simp [h2]
      · rw [if_neg (by simp; omega), if_neg (by simp; omega), decide_eq_false h2, Bool.false_or]
        exact ih
theorem np_filter {L : List Pk} {lo : Int} (h : pkFrom lo L = true) (h0 : 0 ≤ lo) : ∀ k : Nat, npTo L k = (L.filter (fun q => decide (q.1 < (k : Int)))).map (·.1)
  | 0 => by
    rw [low_none h (show ((0 : Nat) : Int) ≤ lo by omega)]
    rfl
  | k + 1 => by
    show npTo L k ++ _ = _
    rw [np_filter h h0 k, show ((k + 1 : Nat) : Int) = (k : Int) + 1 by omega, np_step h]
theorem np_all {L : List Pk} (h : pkFrom 0 L = true) : npTo L 8 = L.map (·.1) := by
  rw [np_filter h (Int.le_refl 0) 8]
  congr 1
  rw [List.filter_eq_self]
  intro q hq
  have := (from_top h q hq).1
  simp
  omega

/-- What the model's loop over names leaves of a pick, and of all. -/
def repK (x : Pk) : List Int → List Pk
  | [] => []
  | m :: t => (if m = x.1 then [x] else []) ++ repK x t
def selK (names : List Int) : List Pk → List Pk
  | [] => []
  | x :: t => repK x names ++ selK names t
theorem repK_none {x : Pk} : ∀ {names : List Int}, (∀ m ∈ names, ¬ m = x.1) → repK x names = []
  | [], _ => rfl
  | m :: t, h => by
    show (if m = x.1 then [x] else []) ++ repK x t = []
    rw [if_neg (h m (by simp)), repK_none fun y hy => h y (List.mem_cons_of_mem _ hy)]
    rfl
theorem repK_step {x : Pk} {names : List Int} {j : Nat} {m : Int} (h : names[j]? = some m) : repK x (names.drop j) = (if m = x.1 then [x] else []) ++ repK x (names.drop (j + 1)) := by
  have hj : j < names.length := (List.getElem?_eq_some_iff.1 h).1
  rw [List.drop_eq_getElem_cons hj, (List.getElem?_eq_some_iff.1 h).2]
  rfl
theorem repK_len {x : Pk} : ∀ names : List Int, (repK x names).length ≤ names.length
  | [] => Nat.le_refl _
  | m :: t => by
    have := repK_len (x := x) t
    unfold repK
    split <;> simp <;> omega
theorem selK_step {names : List Int} {C : List Pk} {k : Nat} {x : Pk} (h : C[k]? = some x) : selK names (C.drop k) = repK x names ++ selK names (C.drop (k + 1)) := by
  have hj : k < C.length := (List.getElem?_eq_some_iff.1 h).1
  rw [List.drop_eq_getElem_cons hj, (List.getElem?_eq_some_iff.1 h).2]
  rfl
theorem selK_nil : ∀ C : List Pk, selK [] C = []
  | [] => rfl
  | x :: t => by show repK x [] ++ selK [] t = []; rw [selK_nil t]; rfl
theorem selK_skip {y : Int} {names : List Int} : ∀ {t : List Pk}, (∀ x ∈ t, ¬ y = x.1) → selK (y :: names) t = selK names t
  | [], _ => rfl
  | x :: t, h => by
    show ((if y = x.1 then [x] else []) ++ repK x names) ++ selK (y :: names) t = repK x names ++ selK names t
    rw [if_neg (h x (by simp)), selK_skip fun z hz => h z (List.mem_cons_of_mem _ hz)]
    rfl
theorem sel_came : ∀ {C : List Pk} {c : List Bool} {lo : Int}, pkFrom lo C = true → selK ((cameL C c).map (·.1)) C = cameL C c
  | [], c, _, _ => by simp [cameL, selK]
  | x :: t, [], _, _ => by show selK [] _ = []; exact selK_nil _
  | x :: t, b :: c, lo, h => by
    simp only [pkFrom, Bool.and_eq_true, decide_eq_true_eq] at h
    have ih := sel_came (c := c) h.2.2
    have hno : ∀ m ∈ (cameL t c).map (·.1), ¬ m = x.1 := fun m hm e => by
      obtain ⟨q, hq, rfl⟩ := List.mem_map.1 hm
      have := from_low h.2.2 q (came_mem hq)
      omega
    have hnt : ∀ y ∈ t, ¬ x.1 = y.1 := fun y hy e => by
      have := from_low h.2.2 y hy
      omega
    cases b
    · show repK x ((cameL t c).map (·.1)) ++ selK ((cameL t c).map (·.1)) t = [] ++ cameL t c
      rw [repK_none hno, ih]
    · show ((if x.1 = x.1 then [x] else []) ++ repK x ((cameL t c).map (·.1))) ++ selK (x.1 :: (cameL t c).map (·.1)) t = [x] ++ cameL t c
      rw [if_pos rfl, repK_none hno, selK_skip hnt, ih]
      rfl
theorem sel_trim (S : List Rel) (N : List Nd) (C : List Pk) : selK (reachL S N C) C = trimL S N C := by
  unfold reachL trimL
  split
  · rename_i h
    rw [Bool.and_eq_true] at h
    exact sel_came (lo := 0) h.2
  · exact selK_nil C
theorem reach_names {S : List Rel} {N : List Nd} {C : List Pk} (hS : shOk S = true) (hN : ndOk N = true) (hC : pkOk C = true) : reachL S N C = npTo (cameL C (endK S N C).1) 8 := by
  have h0 : pkFrom 0 C = true := hC
  rw [np_all (came_from h0)]
  unfold reachL trimL
  rw [hS, hN, hC]
  rfl
end Cpu
end Go.Proofs.Ytgenjbeamlffmaa
