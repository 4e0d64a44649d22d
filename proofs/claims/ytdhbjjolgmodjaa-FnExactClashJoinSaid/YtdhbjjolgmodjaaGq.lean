/- Groundwork over this seat's translation: Tjq, Tjm, Tjn in one text; the conditions stand at each part. -/
import Derived.Test.YtdhbjjolgmodjaaGm
import Derived.Test.YtdhbjjolgmodjaaGh

/- Clashes joined, as plain facts: turned about, they come to the same; what they come to is a clash, and has not more terms than both. No condition. -/
namespace Go.Proofs.Ytdhbjjolgmodjaa
open Go.RowKit Go.Sort

namespace Tmj
open Foot
theorem first_spOk {T : List Tm} {n : Int} {x : Tm} (h : tmOk T = true) (hx : tFirst n T = some x) : spOk x.2.1 = true := (ok_mem h (first_mem hx).1).2.2.1
theorem and_turn {L M : Sps} (hL : spOk L = true) (hM : spOk M = true) : andOk L M = andOk M L ∧ andR L M = andR M L := by
  have e := and_comm' (spOk_iff.1 hL).1 (spOk_iff.1 hM).1
  unfold andOk andR
  rw [hL, hM, e]
  exact ⟨rfl, rfl⟩
theorem or_turn {L M : Sps} (hL : spOk L = true) (hM : spOk M = true) : orOk L M = orOk M L ∧ orR L M = orR M L := by
  have e : orI M L = orI L M := by
    unfold orI
    rw [and_comm' (notL_wf (spOk_iff.1 hL).1) (notL_wf (spOk_iff.1 hM).1)]
  unfold orOk orR
  rw [hL, hM, e]
  exact ⟨rfl, rfl⟩
theorem tJoin_turn {A B : List Tm} (hA : tmOk A = true) (hB : tmOk B = true) (m : Int) (at' : Bool) : tJoin B A m at' = tJoin A B m at' := by
  unfold tJoin
  rcases hx : tFirst m A with _ | x <;> rcases hy : tFirst m B with _ | y
  · rfl
  · rfl
  · rfl
  · have sx := first_spOk hA hx
    have sy := first_spOk hB hy
    have e : y.1 = x.1 := by rw [(first_mem hx).2, (first_mem hy).2]
    show (if at' = true then tOr y x else tAnd y x) = if at' = true then tOr x y else tAnd x y
    have eo : tOr y x = tOr x y := by
      unfold tOr
      rw [(or_turn sy sx).1, (or_turn sy sx).2, e, Bool.or_comm y.2.2]
    have ea : tAnd y x = tAnd x y := by
      unfold tAnd
      rw [(and_turn sy sx).1, (and_turn sy sx).2, e, Bool.and_comm y.2.2]
    rw [eo, ea]
theorem go_turn {A B : List Tm} (hA : tmOk A = true) (hB : tmOk B = true) (n : Int) : ∀ k, joinGo B A n k = joinGo A B n k
  | 0 => rfl
  | k + 1 => by
    unfold joinGo
    rw [go_turn hA hB n k]
    simp only [tJoin_turn hA hB]
theorem join_turn (A B : List Tm) (n : Int) : joinL B A n = joinL A B n := by
  unfold joinL
  by_cases h : tmOk A = true ∧ tmOk B = true ∧ (tFirst n A).isSome = true ∧ (tFirst n B).isSome = true
  · rw [if_pos h, if_pos ⟨h.2.1, h.1, h.2.2.2, h.2.2.1⟩, go_turn h.1 h.2.1]
  · rw [if_neg h, if_neg (fun k => h ⟨k.2.1, k.1, k.2.2.2, k.2.2.1⟩)]
/-- What they come to at a name: no term, or one of that name. -/
theorem tJoin_one {A B : List Tm} {m : Int} {at' : Bool} {U : List Tm} (hA : tmOk A = true) (hB : tmOk B = true) (h : tJoin A B m at' = some U) : U = [] ∨ ∃ x, U = [x] ∧ x.1 = m ∧ spOk x.2.1 = true ∧ ((tFirst m A).isSome = true ∨ (tFirst m B).isSome = true) := by
  unfold tJoin at h
  rcases hx : tFirst m A with _ | x <;> rcases hy : tFirst m B with _ | y
  · rw [hx, hy] at h
    injection h with h
    exact .inl h.symm
  · rw [hx, hy] at h
    injection h with h
    exact .inr ⟨y, h.symm, (first_mem hy).2, first_spOk hB hy, .inr rfl⟩
  · rw [hx, hy] at h
    injection h with h
    exact .inr ⟨x, h.symm, (first_mem hx).2, first_spOk hA hx, .inl rfl⟩
  · rw [hx, hy] at h
    have hn := (first_mem hx).2
    simp only at h
    split at h
    · unfold tOr at h
      split at h
      · rename_i ho
        split at h
        · injection h with h
          exact .inl h.symm
        · injection h with h
          exact .inr ⟨_, h.symm, hn, (or_facts ho).1, .inl rfl⟩
      · cases h
    · unfold tAnd at h
      split at h
      · rename_i ho
        injection h with h
        exact .inr ⟨_, h.symm, hn, (and_facts ho).1, .inl rfl⟩
      · cases h
theorem from_snoc {x : Tm} (h7 : x.1 ≤ 7) (hs : spOk x.2.1 = true) : ∀ {T : List Tm} {lo : Int}, tmFrom lo T = true → (∀ q ∈ T, q.1 < x.1) → lo ≤ x.1 → tmFrom lo (T ++ [x]) = true
  | [], lo, _, _, h0 => by
    simp only [List.nil_append, tmFrom, Bool.and_eq_true, decide_eq_true_eq]
    exact ⟨⟨h0, h7⟩, hs, trivial⟩
  | q :: t, lo, h, hq, h0 => by
    simp only [List.cons_append, tmFrom, Bool.and_eq_true, decide_eq_true_eq] at h ⊢
    have := hq q List.mem_cons_self
    exact ⟨h.1, h.2.1, from_snoc h7 hs h.2.2 (fun r hr => hq r (List.mem_cons_of_mem _ hr)) (by omega)⟩
/-- How many terms have a name below k. -/
def under (k : Nat) (T : List Tm) : Nat := (T.filter fun q => decide (q.1 < (k : Int))).length
theorem under_mono (k : Nat) : ∀ (T : List Tm), under k T ≤ under (k + 1) T
  | [] => Nat.le_refl _
  | q :: t => by
    have := under_mono k t
    unfold under at this ⊢
    simp only [List.filter_cons]
    by_cases h : q.1 < (k : Int)
    · rw [if_pos (decide_eq_true h), if_pos (decide_eq_true (by omega))]
      simpa using this
    · rw [if_neg (by simpa using h)]
      split
      · simp only [List.length_cons]; omega
      · exact this
theorem under_more {k : Nat} : ∀ {T : List Tm}, (tFirst (k : Int) T).isSome = true → under k T + 1 ≤ under (k + 1) T
  | [], h => by simp [tFirst] at h
  | q :: t, h => by
    unfold tFirst at h
    have hm := under_mono k t
    by_cases hq : q.1 = (k : Int)
    · unfold under at hm ⊢
      simp only [List.filter_cons]
      rw [if_neg (by simp; omega), if_pos (decide_eq_true (by omega))]
      simp only [List.length_cons]
      omega
    · rw [if_neg hq] at h
      have := under_more h
      unfold under at this ⊢
      simp only [List.filter_cons]
      by_cases h1 : q.1 < (k : Int)
      · rw [if_pos (decide_eq_true h1), if_pos (decide_eq_true (by omega))]
        simp only [List.length_cons]
        omega
      · rw [if_neg (by simpa using h1), if_neg (by simp; omega)]
        exact this
theorem go_fine {A B : List Tm} {n : Int} (hA : tmOk A = true) (hB : tmOk B = true) : ∀ {k : Nat} {U : List Tm}, k ≤ 8 → joinGo A B n k = some U → tmFrom 0 U = true ∧ (∀ q ∈ U, q.1 < (k : Int)) ∧ U.length ≤ under k A + under k B
  | 0, U, _, h => by
    simp only [joinGo, Option.some.injEq] at h
    subst h
    exact ⟨rfl, fun q hq => by simp at hq, by simp⟩
  | k + 1, U, hk, h => by
    unfold joinGo at h
    split at h
    · cases h
    rename_i T hT
    split at h
    · cases h
    rename_i V hV
    injection h with h
    subst h
    obtain ⟨h1, h2, h3⟩ := go_fine hA hB (by omega) hT
    have mA := under_mono k A
    have mB := under_mono k B
    rcases tJoin_one hA hB hV with rfl | ⟨x, rfl, hx, hs, hor⟩
    · rw [List.append_nil]
      exact ⟨h1, fun q hq => by have := h2 q hq; omega, by omega⟩
    · refine ⟨from_snoc (by omega) hs h1 (fun q hq => by have := h2 q hq; omega) (by omega), fun q hq => ?_, ?_⟩
      · rcases List.mem_append.1 hq with hq | hq
        · have := h2 q hq
          omega
        · rw [List.mem_singleton.1 hq]
          omega
      · rw [List.length_append, List.length_singleton]
        rcases hor with k1 | k1
        · have := under_more k1
          omega
        · have := under_more k1
          omega
/-- What two clashes come to is a clash, and has not more terms than both. -/
theorem join_fine {A B O : List Tm} {n : Int} (h : joinL A B n = some O) : tmOk O = true ∧ O.length ≤ A.length + B.length := by
  unfold joinL at h
  split at h
  case isFalse => cases h
  rename_i hk
  obtain ⟨h1, _, h3⟩ := go_fine hk.1 hk.2.1 (Nat.le_refl 8) h
  refine ⟨h1, Nat.le_trans h3 (Nat.add_le_add ?_ ?_)⟩
  · exact List.length_filter_le _ _
  · exact List.length_filter_le _ _
end Tmj
end Go.Proofs.Ytdhbjjolgmodjaa

/- Clashes joined by one walk over both, as plain facts: it comes to the same as name by name. No condition. -/
namespace Go.Proofs.Ytdhbjjolgmodjaa
open Go.RowKit Go.Sort

namespace Tmj
open Foot
/-- What a walk over the rests of both comes to. -/
def mg (n : Int) : List Tm → List Tm → List Tm → Bool → Option (List Tm)
  | [], [], U, fd => if fd = true then some U else none
  | x :: A, [], U, fd => if x.1 = n then none else mg n A [] (U ++ [x]) fd
  | [], y :: B, U, fd => if y.1 = n then none else mg n [] B (U ++ [y]) fd
  | x :: A, y :: B, U, fd =>
    if x.1 < y.1 then (if x.1 = n then none else mg n A (y :: B) (U ++ [x]) fd)
    else if y.1 < x.1 then (if y.1 = n then none else mg n (x :: A) B (U ++ [y]) fd)
    else if x.1 = n then (match tOr x y with
      | none => none
      | some V => mg n A B (U ++ V) true)
    else match tAnd x y with
      | none => none
      | some V => mg n A B (U ++ V) fd
termination_by A B => A.length + B.length
/-- What two clashes come to at d names from m on. -/
def jf (A B : List Tm) (n : Int) : Int → Nat → Option (List Tm)
  | _, 0 => some []
  | m, d + 1 => match tJoin A B m (decide (m = n)) with
    | none => none
    | some V => (jf A B n (m + 1) d).map (V ++ ·)
theorem jf_congr {A B A' B' : List Tm} {n : Int} : ∀ (d : Nat) {m : Int}, (∀ k, m ≤ k → tFirst k A = tFirst k A') → (∀ k, m ≤ k → tFirst k B = tFirst k B') → jf A B n m d = jf A' B' n m d
  | 0, m, _, _ => rfl
  | d + 1, m, h, h' => by
    unfold jf
    rw [jf_congr d (m := m + 1) (fun k hk => h k (by omega)) (fun k hk => h' k (by omega))]
    unfold tJoin
    rw [h m (by omega), h' m (by omega)]
theorem jf_go {A B : List Tm} {n : Int} : ∀ (d k : Nat) {T : List Tm}, joinGo A B n k = some T → (jf A B n (k : Int) d).map (T ++ ·) = joinGo A B n (k + d)
  | 0, k, T, h => by
    rw [Nat.add_zero, h]
    simp [jf]
  | d + 1, k, T, h => by
    unfold jf
    rcases h' : tJoin A B (k : Int) (decide ((k : Int) = n)) with _ | V
    · have := go_none (join_stop h h') d
      rw [show k + (d + 1) = k + 1 + d by omega, this]
      rfl
    · have := jf_go d (k + 1) (join_next h h')
      rw [show k + (d + 1) = k + 1 + d by omega, ← this, show ((k + 1 : Nat) : Int) = (k : Int) + 1 by omega]
      rcases jf A B n ((k : Int) + 1) d with _ | W
      · rfl
      · simp
theorem jf_all {A B : List Tm} {n : Int} : jf A B n 0 8 = joinGo A B n 8 := by
  have := jf_go (A := A) (B := B) (n := n) 8 0 (T := []) rfl
  rw [show (0 + 8 : Nat) = 8 from rfl] at this
  rw [← this]
  simp
theorem first_low {n : Int} : ∀ {T : List Tm} {lo : Int}, tmFrom lo T = true → n < lo → tFirst n T = none
  | [], _, _, _ => rfl
  | q :: t, lo, h, hn => by
    simp only [tmFrom, Bool.and_eq_true, decide_eq_true_eq] at h
    obtain ⟨⟨h1, h2⟩, h3, h4⟩ := h
    unfold tFirst
    rw [if_neg (by omega)]
    exact first_low h4 (by omega)
theorem from_cases {m : Int} : ∀ {T : List Tm}, tmFrom m T = true → (tFirst m T = none ∧ tmFrom (m + 1) T = true ∧ ∀ x t, T = x :: t → m + 1 ≤ x.1) ∨ (∃ x t, T = x :: t ∧ x.1 = m ∧ tmFrom (m + 1) t = true)
  | [], _ => .inl ⟨rfl, rfl, fun x t h => by cases h⟩
  | q :: t, h => by
    have h0 := h
    simp only [tmFrom, Bool.and_eq_true, decide_eq_true_eq] at h
    obtain ⟨⟨h1, h2⟩, h3, h4⟩ := h
    by_cases e : q.1 = m
    · exact .inr ⟨q, t, rfl, e, by rw [← e]; exact h4⟩
    · refine .inl ⟨?_, ?_, fun x t h => by injection h with h _; rw [← h]; omega⟩
      · unfold tFirst
        rw [if_neg e]
        exact first_low h4 (by omega)
      · simp only [tmFrom, Bool.and_eq_true, decide_eq_true_eq]
        exact ⟨⟨by omega, h2⟩, h3, h4⟩
theorem first_tail {x : Tm} {t : List Tm} {k : Int} (h : x.1 ≠ k) : tFirst k (x :: t) = tFirst k t := by
  rw [tFirst, if_neg h]
theorem first_head {x : Tm} {t : List Tm} {k : Int} (h : x.1 = k) : tFirst k (x :: t) = some x := by
  rw [tFirst, if_pos h]
theorem mg_left {n : Int} {x : Tm} {A B U : List Tm} {fd : Bool} (h : ∀ y t, B = y :: t → x.1 < y.1) : mg n (x :: A) B U fd = if x.1 = n then none else mg n A B (U ++ [x]) fd := by
  match B, h with
  | [], _ => rw [mg]
  | y :: t, h => rw [mg, if_pos (h y t rfl)]
theorem mg_right {n : Int} {y : Tm} {A B U : List Tm} {fd : Bool} (h : ∀ x t, A = x :: t → y.1 < x.1) : mg n A (y :: B) U fd = if y.1 = n then none else mg n A B (U ++ [y]) fd := by
  match A, h with
  | [], _ => rw [mg]
  | x :: t, h =>
    have := h x t rfl
    rw [mg, if_neg (by omega), if_pos this]
theorem mg_both {n : Int} {x y : Tm} {A B U : List Tm} {fd : Bool} (h : x.1 = y.1) : mg n (x :: A) (y :: B) U fd = if x.1 = n then (match tOr x y with
      | none => none
      | some V => mg n A B (U ++ V) true)
    else match tAnd x y with
      | none => none
      | some V => mg n A B (U ++ V) fd := by
  rw [mg, if_neg (by omega), if_neg (by omega)]
theorem jf_step {A B A' B' V : List Tm} {n m : Int} {d : Nat} (h : tJoin A B m (decide (m = n)) = some V) (hA : ∀ k, m + 1 ≤ k → tFirst k A = tFirst k A') (hB : ∀ k, m + 1 ≤ k → tFirst k B = tFirst k B') (U : List Tm) : (jf A B n m (d + 1)).map (U ++ ·) = (jf A' B' n (m + 1) d).map (U ++ V ++ ·) := by
  rw [show jf A B n m (d + 1) = (jf A' B' n (m + 1) d).map (V ++ ·) by rw [jf, h, jf_congr d hA hB]]
  rcases jf A' B' n (m + 1) d with _ | W
  · rfl
  · simp
theorem mg_eq {n : Int} : ∀ (d : Nat) (m : Int) (A B U : List Tm) (fd : Bool), m + d = 8 → tmFrom m A = true → tmFrom m B = true →
    mg n A B U fd = if (tFirst n A).isSome = (tFirst n B).isSome ∧ (fd = true ∨ (tFirst n A).isSome = true) then (jf A B n m d).map (U ++ ·) else none
  | 0, m, A, B, U, fd, hm, hA, hB => by
    have nil : ∀ {T : List Tm}, tmFrom m T = true → T = [] := fun {T} h => by
      match T, h with
      | [], _ => rfl
      | q :: t, h =>
        simp only [tmFrom, Bool.and_eq_true, decide_eq_true_eq] at h
        omega
    rw [nil hA, nil hB, mg]
    simp [tFirst, jf]
  | d + 1, m, A, B, U, fd, hm, hA, hB => by
    rcases from_cases hA with ⟨fa, gA, lA⟩ | ⟨x, A', rfl, hx, gA⟩ <;> rcases from_cases hB with ⟨fb, gB, lB⟩ | ⟨y, B', rfl, hy, gB⟩
    · rw [mg_eq d (m + 1) A B U fd (by omega) gA gB]
      have hj : tJoin A B m (decide (m = n)) = some [] := by unfold tJoin; rw [fa, fb]
      rw [jf_step hj (fun k _ => rfl) (fun k _ => rfl) U, List.append_nil]
    · rw [mg_right fun x t h => by have := lA x t h; omega]
      by_cases e : y.1 = n
      · rw [if_pos e, if_neg]
        rw [first_head e, ← e, hy, fa]
        simp
      · have hj : tJoin A (y :: B') m (decide (m = n)) = some [y] := by unfold tJoin; rw [fa, first_head hy]
        rw [if_neg e, mg_eq d (m + 1) A B' (U ++ [y]) fd (by omega) gA gB, first_tail e, jf_step hj (fun k _ => rfl) (fun k hk => first_tail (by omega)) U]
    · rw [mg_left fun y t h => by have := lB y t h; omega]
      by_cases e : x.1 = n
      · rw [if_pos e, if_neg]
        rw [first_head e, ← e, hx, fb]
        simp
      · have hj : tJoin (x :: A') B m (decide (m = n)) = some [x] := by unfold tJoin; rw [fb, first_head hx]
        rw [if_neg e, mg_eq d (m + 1) A' B (U ++ [x]) fd (by omega) gA gB, first_tail e, jf_step hj (fun k hk => first_tail (by omega)) (fun k _ => rfl) U]
    · rw [mg_both (by omega)]
      by_cases e : x.1 = n
      · have hm' : decide (m = n) = true := decide_eq_true (by omega)
        have e' : y.1 = n := by omega
        rw [if_pos e, first_head e, first_head e', if_pos ⟨rfl, .inr rfl⟩]
        rcases h : tOr x y with _ | V
        · have hj : tJoin (x :: A') (y :: B') m (decide (m = n)) = none := by unfold tJoin; rw [first_head hx, first_head hy]; simp only; rw [if_pos hm', h]
          unfold jf
          rw [hj]
          rfl
        · have hj : tJoin (x :: A') (y :: B') m (decide (m = n)) = some V := by unfold tJoin; rw [first_head hx, first_head hy]; simp only; rw [if_pos hm', h]
          simp only
          rw [mg_eq d (m + 1) A' B' (U ++ V) true (by omega) gA gB, first_low gA (by omega), first_low gB (by omega), if_pos ⟨rfl, .inl rfl⟩, jf_step hj (fun k hk => first_tail (by omega)) (fun k hk => first_tail (by omega)) U]
      · have hm' : ¬ decide (m = n) = true := by rw [decide_eq_true_eq]; omega
        have e' : y.1 ≠ n := by omega
        rw [if_neg e, first_tail e, first_tail e']
        rcases h : tAnd x y with _ | V
        · have hj : tJoin (x :: A') (y :: B') m (decide (m = n)) = none := by unfold tJoin; rw [first_head hx, first_head hy]; simp only; rw [if_neg hm', h]
          have : jf (x :: A') (y :: B') n m (d + 1) = none := by
            unfold jf
            rw [hj]
          rw [this]
          simp
        · have hj : tJoin (x :: A') (y :: B') m (decide (m = n)) = some V := by unfold tJoin; rw [first_head hx, first_head hy]; simp only; rw [if_neg hm', h]
          simp only
          rw [mg_eq d (m + 1) A' B' (U ++ V) fd (by omega) gA gB, jf_step hj (fun k hk => first_tail (by omega)) (fun k hk => first_tail (by omega)) U]
/-- The walk comes to what the clashes come to. -/
theorem mg_all {A B : List Tm} {n : Int} (hA : tmOk A = true) (hB : tmOk B = true) : mg n A B [] false = joinL A B n := by
  rw [mg_eq 8 0 A B [] false (by omega) hA hB, jf_all]
  unfold joinL
  by_cases h : (tFirst n A).isSome = true ∧ (tFirst n B).isSome = true
  · rw [if_pos ⟨by rw [h.1, h.2], .inr h.1⟩, if_pos ⟨hA, hB, h.1, h.2⟩]
    simp
  · rw [if_neg, if_neg fun k => h ⟨k.2.2.1, k.2.2.2⟩]
    rintro ⟨k1, k2 | k2⟩
    · cases k2
    · exact h ⟨k2, k1 ▸ k2⟩
end Tmj
end Go.Proofs.Ytdhbjjolgmodjaa

/- The contract of the model's l6Copy, over this seat's translation: a new row with the same terms; nothing that was there before the call has changed. Condition: at most 1048576 terms, and spans of each. -/
namespace Go.Proofs.Ytdhbjjolgmodjaa
open Go.RowKit Go.Sort

namespace Tmj
open Foot Copy
set_option maxRecDepth 100000 in
set_option maxHeartbeats 4000000 in
theorem l6Copy_any (v : Value) (M : List Tm) (w : World) (h : TmAt w w.heap.size v M) (hl : M.length ≤ 1048576) (hq : ∀ q ∈ M, q.2.1.length ≤ 1048576) : Calls Try.prog 50 #[v] w (TcPost M w) := by
  obtain ⟨a, cap, rfl, h⟩ := h
  obtain ⟨i0, hi, hz0, hz1, hz2⟩ := info_parts Tmo.infoTerm
  have h0 := h
  clear h
  go_enter Try.func50, Try.ntmps50
  go_wp2_with fail
  go_loopw [3, 4] (fun v i wr => TcRel M w v i wr) (fun _ i _ => M.length - (intOf i).toNat)
  case atStart => exact ⟨0, [], Nat.zero_le _, rfl, by rw [List.take_zero]; exact TGrow.made rfl (Nat.le_refl _), (Below.refl _ _).alloc (Nat.le_refl _) _⟩
  case round =>
    obtain ⟨k, fs, hk, rfl, hown, hb⟩ := hrel
    obtain ⟨T, hT⟩ : ∃ T, M.take k = T := ⟨_, rfl⟩
    have hTl := Lib.hid (show T.length = k by rw [← hT]; simp; omega)
    have hTm : T.length ≤ M.length := by rw [hTl.out]; exact hk
    rw [hT] at hown
    obtain ⟨va, vc, hv, hx⟩ := id hown.own.at
    subst hv
    clear hx
    have S1 := Lib.hid hown
    clear hown
    by_cases hlt : k < M.length
    · rcases h0 with h0 | ⟨b, o, rfl, hB, hc⟩
      · subst h0
        exact absurd hlt (by simp)
      obtain ⟨x, L, f, hxy⟩ : ∃ x L f, M[k] = (x, L, f) := ⟨_, _, _, rfl⟩
      have c := (hc k hlt).below hb hB
      rw [hxy] at c
      obtain ⟨e0, a1, cap1, e1, hs, e2⟩ := c
      have hL : L.length ≤ 1048576 := by have := hq _ (List.getElem_mem hlt); rwa [hxy] at this
      simp only at e0 e1 hs e2
      have HXY := Lib.hid (show M[k]? = some (x, L, f) by rw [List.getElem?_eq_getElem hlt, hxy])
      have HT := Lib.hid hT
      have zb := hb.size
      have HS := Lib.hid (hs.mono zb)
      have hB2 : b < wr.heap.size := by omega
      have hbne : b ≠ wr.heap.size := by omega
      clear hxy hc hs hT
      go_wp2_with fail
      go_region_held3 (fun V => V.cell? ⟨b, o + k * 3, none⟩ = some (.int .i64 x) ∧ V.cell? ⟨b, o + k * 3 + 1, none⟩ = some (.slice a1 L.length cap1) ∧ V.cell? ⟨b, o + k * 3 + 2, none⟩ = some (.bool f)) (go_keep)
        (first
        | (go_at_call 93; refine (l3Range_any _ L _ (SpAt.stepTo HS.out (by go_grown)) hL).mono ?_; rintro e w2 ⟨u2, rfl, sr2, hb2⟩; obtain ⟨na, ncap, rfl, _⟩ := id sr2; have n2 : Below wr.heap.size wr w2 := Below.step (by go_grown) hb2; have y0 : w2.cell? ⟨b, o + k * 3, none⟩ = some (.int .i64 x) := (n2.cell (p := ⟨b, o + k * 3, none⟩) hB2).trans e0; have y1 : w2.cell? ⟨b, o + k * 3 + 1, none⟩ = some (.slice a1 L.length cap1) := (n2.cell (p := ⟨b, o + k * 3 + 1, none⟩) hB2).trans e1; have y2 : w2.cell? ⟨b, o + k * 3 + 2, none⟩ = some (.bool f) := (n2.cell (p := ⟨b, o + k * 3 + 2, none⟩) hB2).trans e2; have z2 := n2.size; have z3 := hb2.size; (try simp at z3); have nw2 : Below w.heap.size w w2 := hb.trans (n2.mono hb.size); obtain ⟨cs, hown2, he2, hnd2, _⟩ := S1.out.below n2; obtain ⟨_, _, _, _, hin1⟩ := id S1.out; have hlt2 := World.ownsRow.lt hown2; have hlt1 := S1.out.own.lt; obtain ⟨F, hsF, hF0⟩ := SpF.of sr2; have hF := Lib.hid (show ∀ b ∈ F, wr.heap.size ≤ b from fun b k => by have := hF0 b k; first | (simp at this; omega) | omega); have HE := Lib.hid he2; have HD := Lib.hid hnd2; have HI := Lib.hid hin1; have HX := Lib.hid hsF; clear he2 hnd2 hin1 hsF hF0 sr2 hb2)
        | ((try rw [if_pos (by first | rfl | kernel_rfl | simp [Region.wanted])]); refine wp_append_lies _ _ _ 24 (by rfl) w.heap.size 83 i0 (.agg #[.int .i64 0, .slice none 0 0, .bool false]) 3 40 Try.underlying24 hi hz0 hz1 hz2 rfl (by decide) _ _ cs (by rfl) (hown2.alloc (.cells #[.int .i64 x, .slice na L.length ncap, .bool f] 83)) ⟨w2.heap.size, 0, none⟩ 1 1 [.int .i64 x, .slice na L.length ncap, .bool f] (by rfl) rfl (Tmo.term_new rfl) Tmo.term_one (by omega) (by unfold maxLen; omega) (by omega) (by first | (simp; done) | (simp; omega)) _ rfl ?_; intro g cap3 w3 hown3 hgrow3 hat3 hlt3; have HP := Lib.hid (TGrow.push (Z := wr.heap.size) (W := w2.alloc (.cells #[.int .i64 x, .slice na L.length ncap, .bool f] 83)) ((Below.refl _ _).alloc (Nat.le_refl _) _) HE.out hown2.1 HD.out HI.out (fun k e => (hlt1 k e).2) HX.out hF.out z2 zb hown3 hgrow3 (by simpa using hat3)); have n3 : Below w.heap.size w w3 := Below.grown (by go_grown) hgrow3 (by first | (simp; done) | (simp; omega)) (fun k e => (hlt2 k e).1); have v0 : w3.cell? ⟨b, o + k * 3, none⟩ = some (.int .i64 x) := (World.cell?_of_block (a := ⟨b, o + k * 3, none⟩) (hgrow3.block (b) (by first | (simp; omega) | omega) (fun e => by have := hlt1 _ e.symm; omega))).trans (by go_simp); have v1 : w3.cell? ⟨b, o + k * 3 + 1, none⟩ = some (.slice a1 L.length cap1) := (World.cell?_of_block (a := ⟨b, o + k * 3 + 1, none⟩) (hgrow3.block (b) (by first | (simp; omega) | omega) (fun e => by have := hlt1 _ e.symm; omega))).trans (by go_simp); have v2 : w3.cell? ⟨b, o + k * 3 + 2, none⟩ = some (.bool f) := (World.cell?_of_block (a := ⟨b, o + k * 3 + 2, none⟩) (hgrow3.block (b) (by first | (simp; omega) | omega) (fun e => by have := hlt1 _ e.symm; omega))).trans (by go_simp)))
      all_goals
        go_wp2_with fail
        go_roundw
        case rel => first | exact tc_next HT.out HXY.out HP.out n3 | (rw [hTl.out] at HP; exact tc_next HT.out HXY.out HP.out n3)
        case measure => simp [intOf]; omega
    · obtain rfl : k = M.length := by omega
      have hT' : T = M := by rw [← hT, List.take_length]
      subst hT'
      go_wp2_with fail
      go_ret
      exact ⟨_, _, rfl, S1.out, hb⟩
end Tmj
end Go.Proofs.Ytdhbjjolgmodjaa
