/- Facts of runs, plainly: what was read is open and noted once; what is not fine made nothing, what is made is not too long; a run hangs on what was read alone. No condition. -/
import Derived.Test.YtopplljilmjjgaaRxp
namespace Go.Proofs.Ytopplljilmjjgaa
namespace Rx
theorem addR_mem {R : List Int} {a : Int} : a ∈ addR R a := by
  unfold addR
  split
  · assumption
  · simp
theorem addR_sub {R : List Int} {a x : Int} (h : x ∈ R) : x ∈ addR R a := by
  unfold addR
  split
  · exact h
  · exact List.mem_append_left _ h
theorem addR_or {R : List Int} {a x : Int} (h : x ∈ addR R a) : x ∈ R ∨ x = a := by
  unfold addR at h
  split at h
  · exact .inl h
  · rcases List.mem_append.1 h with h | h
    · exact .inl h
    · exact .inr (by simpa using h)
theorem addR_nodup {R : List Int} {a : Int} (h : R.Nodup) : (addR R a).Nodup := by
  unfold addR
  split
  · exact h
  · rename_i hn
    rw [List.nodup_append]
    refine ⟨h, by simp, fun x hx y hy e => ?_⟩
    simp at hy
    subst e
    subst hy
    exact hn hx

section
variable {I I' : List ByteArray} {O O' : List Bool}
/-- The row of what was read behind a line: as before, or with the line's input. -/
theorem stp_reads (x : Ln) (out : ByteArray) (R : List Int) :
    ((stp I O x out R).2.2 = R ∧ (rd x = true → O.getD x.2.1.toNat false = false)) ∨ ((stp I O x out R).2.2 = addR R x.2.1 ∧ rd x = true ∧ O.getD x.2.1.toNat false = true) := by
  by_cases h : rd x = true ∧ O.getD x.2.1.toNat false = false
  · refine .inl ⟨?_, fun _ => h.2⟩
    unfold stp
    rw [if_pos h]
  · rcases hr : rd x
    · refine .inl ⟨?_, fun e => by cases e⟩
      unfold stp
      rw [if_neg h]
      dsimp only
      rw [hr]
      split
      · rfl
      · split <;> rfl
    · have ho : O.getD x.2.1.toNat false = true := by
        rcases ho : O.getD x.2.1.toNat false
        · exact absurd ⟨hr, ho⟩ h
        · rfl
      refine .inr ⟨?_, rfl, ho⟩
      unfold stp
      rw [if_neg h]
      dsimp only
      rw [hr]
      split
      · rfl
      · split <;> rfl
theorem stp_sub {x : Ln} {out : ByteArray} {R : List Int} {y : Int} (h : y ∈ R) : y ∈ (stp I O x out R).2.2 := by
  rcases stp_reads (I := I) (O := O) x out R with h1 | h1
  · rw [h1.1]; exact h
  · rw [h1.1]; exact addR_sub h

theorem run_cons (x : Ln) (t : List Ln) (out : ByteArray) (R : List Int) :
    run I O (x :: t) out R = if (stp I O x out R).1 = 0 then run I O (t.drop (skp I x)) (stp I O x out R).2.1 (stp I O x out R).2.2 else ((stp I O x out R).1, ByteArray.empty, (stp I O x out R).2.2) := by
  rw [run]

theorem run_sub : ∀ (n : Nat) (L : List Ln) (out : ByteArray) (R : List Int) (y : Int), L.length ≤ n → y ∈ R → y ∈ (run I O L out R).2.2 := by
  intro n
  induction n with
  | zero =>
    intro L out R y h hy
    obtain rfl : L = [] := List.eq_nil_of_length_eq_zero (by omega)
    rw [run_nil]
    exact hy
  | succ n ih =>
    intro L out R y h hy
    rcases L with _ | ⟨x, t⟩
    · rw [run_nil]
      exact hy
    · rw [run_cons]
      split
      · exact ih _ _ _ _ (by simp at h ⊢; omega) (stp_sub hy)
      · exact stp_sub hy

/-- What was read is an input that is open, noted once. -/
theorem run_open (m : Int) : ∀ (n : Nat) (L : List Ln) (out : ByteArray) (R : List Int), L.length ≤ n → (∀ x ∈ L, LOk x m) → R.Nodup → (∀ y ∈ R, 0 ≤ y ∧ y < m ∧ O.getD y.toNat false = true) →
    (run I O L out R).2.2.Nodup ∧ ∀ y ∈ (run I O L out R).2.2, 0 ≤ y ∧ y < m ∧ O.getD y.toNat false = true := by
  intro n
  induction n with
  | zero =>
    intro L out R h _ h1 h2
    obtain rfl : L = [] := List.eq_nil_of_length_eq_zero (by omega)
    rw [run_nil]
    exact ⟨h1, h2⟩
  | succ n ih =>
    intro L out R h hL h1 h2
    rcases L with _ | ⟨x, t⟩
    · rw [run_nil]
      exact ⟨h1, h2⟩
    · have hs : (stp I O x out R).2.2.Nodup ∧ ∀ y ∈ (stp I O x out R).2.2, 0 ≤ y ∧ y < m ∧ O.getD y.toNat false = true := by
        rcases stp_reads (I := I) (O := O) x out R with e | ⟨e, hr, ho⟩
        · rw [e.1]
          exact ⟨h1, h2⟩
        · rw [e]
          refine ⟨addR_nodup h1, fun y hy => ?_⟩
          rcases addR_or hy with hy | rfl
          · exact h2 y hy
          · have hk := hL x (by simp)
            unfold rd at hr
            rw [decide_eq_true_eq] at hr
            unfold LOk at hk
            exact ⟨by omega, by omega, ho⟩
      rw [run_cons]
      split
      · exact ih _ _ _ (by simp at h ⊢; omega) (fun y hy => hL y (List.mem_cons_of_mem _ (List.mem_of_mem_drop hy))) hs.1 hs.2
      · exact hs

theorem run_out : ∀ (n : Nat) (L : List Ln) (out : ByteArray) (R : List Int), L.length ≤ n → out.size ≤ 40 →
    ((run I O L out R).1 = 0 → (run I O L out R).2.1.size ≤ 40) ∧ ((run I O L out R).1 ≠ 0 → (run I O L out R).2.1 = ByteArray.empty) := by
  intro n
  induction n with
  | zero =>
    intro L out R h ho
    obtain rfl : L = [] := List.eq_nil_of_length_eq_zero (by omega)
    rw [run_nil]
    exact ⟨fun _ => ho, fun e => absurd rfl e⟩
  | succ n ih =>
    intro L out R h ho
    rcases L with _ | ⟨x, t⟩
    · rw [run_nil]
      exact ⟨fun _ => ho, fun e => absurd rfl e⟩
    · rw [run_cons]
      split
      · rename_i h0
        exact ih _ _ _ (by simp at h ⊢; omega) (stp_small h0)
      · rename_i h0
        exact ⟨fun e => absurd e h0, fun _ => rfl⟩

/-- A line comes to the same where its input, if it reads one, is the same and as open. -/
theorem stp_same {x : Ln} {out : ByteArray} {R : List Int} (h : rd x = true → inp I' x = inp I x ∧ O'.getD x.2.1.toNat false = O.getD x.2.1.toNat false) : stp I' O' x out R = stp I O x out R ∧ skp I' x = skp I x := by
  rcases hr : rd x
  · have hn : x.1 ≠ 0 ∧ x.1 ≠ 2 ∧ x.1 ≠ 5 := by
      unfold rd at hr
      rw [decide_eq_false_iff_not] at hr
      omega
    have e : ∀ J, nxt J x out = nxt I x out := fun J => by
      unfold nxt
      rw [if_neg hn.1, if_neg hn.1]
    refine ⟨?_, ?_⟩
    · have hs : ∀ J P, stp J P x out R = (if 40 < (nxt I x out).size then 3 else 0, nxt I x out, R) := by
        intro J P
        unfold stp
        rw [if_neg (by rw [hr]; simp)]
        dsimp only
        rw [if_neg (fun k => hn.2.2 k.1), e J, hr]
        split <;> rfl
      exact (hs I' O').trans (hs I O).symm
    · unfold skp
      rw [if_neg (fun k => hn.2.1 k.1), if_neg (fun k => hn.2.1 k.1)]
  · obtain ⟨h1, h2⟩ := h hr
    refine ⟨?_, ?_⟩
    · unfold stp nxt
      rw [h1, h2]
    · unfold skp
      rw [h1]

/-- A run hangs on what was read alone. -/
theorem run_same : ∀ (n : Nat) (L : List Ln) (out : ByteArray) (R : List Int), L.length ≤ n →
    (∀ y ∈ (run I O L out R).2.2, I'.getD y.toNat ByteArray.empty = I.getD y.toNat ByteArray.empty ∧ O'.getD y.toNat false = true) →
    ((run I O L out R).1 ≠ 2 ∨ ∀ j, O'.getD j false = O.getD j false) → run I' O' L out R = run I O L out R := by
  intro n
  induction n with
  | zero =>
    intro L out R h _ _
    obtain rfl : L = [] := List.eq_nil_of_length_eq_zero (by omega)
    rw [run_nil, run_nil]
  | succ n ih =>
    intro L out R h hR h2
    rcases L with _ | ⟨x, t⟩
    · rw [run_nil, run_nil]
    · by_cases hcl : rd x = true ∧ O.getD x.2.1.toNat false = false
      · -- the input is not open: the run ends here
        have hs : stp I O x out R = (2, out, R) := by
          unfold stp
          rw [if_pos hcl]
        have h1 : run I O (x :: t) out R = (2, ByteArray.empty, R) := by
          rw [run_cons, hs]
          rfl
        rcases h2 with h2 | h2
        · exact absurd (by rw [h1]) h2
        · have hs' : stp I' O' x out R = (2, out, R) := by
            unfold stp
            rw [if_pos ⟨hcl.1, by rw [h2]; exact hcl.2⟩]
          rw [h1, run_cons, hs']
          rfl
      have hst : stp I' O' x out R = stp I O x out R ∧ skp I' x = skp I x := by
        apply stp_same
        intro hr
        rcases stp_reads (I := I) (O := O) x out R with ⟨e, hc⟩ | ⟨e, _, ho⟩
        · exact absurd ⟨hr, hc hr⟩ hcl
        · have hm : x.2.1 ∈ (run I O (x :: t) out R).2.2 := by
            rw [run_cons]
            split
            · exact run_sub t.length _ _ _ _ (by simp) (by rw [e]; exact addR_mem)
            · show x.2.1 ∈ (stp I O x out R).2.2
              rw [e]
              exact addR_mem
          obtain ⟨a1, a2⟩ := hR _ hm
          exact ⟨a1, by rw [a2, ho]⟩
      rw [run_cons, run_cons, hst.1, hst.2]
      rw [run_cons] at hR h2
      by_cases h0 : (stp I O x out R).1 = 0
      · rw [if_pos h0] at hR h2 ⊢
        rw [if_pos h0]
        exact ih _ _ _ (by simp at h ⊢; omega) hR h2
      · rw [if_neg h0, if_neg h0]
end
end Rx
end Go.Proofs.Ytopplljilmjjgaa
