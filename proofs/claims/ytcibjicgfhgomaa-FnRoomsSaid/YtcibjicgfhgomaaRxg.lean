/- What a run comes to hangs on what was read alone, plainly: with other texts, of which those that were read are the same, it comes to the same, and so with nothing else open. No condition. -/
import Derived.Test.YtcibjicgfhgomaaRxf
namespace Go.Proofs.Ytcibjicgfhgomaa
namespace Rx
theorem stp_not1 {I : List ByteArray} {O : List Bool} {x : Ln} {out : ByteArray} {R : List Int} : (stp I O x out R).1 ≠ 1 := by
  unfold stp
  split
  · simp
  · dsimp only
    split
    · simp
    · split <;> simp
theorem run_not1 {I : List ByteArray} {O : List Bool} : ∀ (n : Nat) (L : List Ln) (out : ByteArray) (R : List Int), L.length ≤ n → (run I O L out R).1 ≠ 1 := by
  intro n
  induction n with
  | zero =>
    intro L out R h
    obtain rfl : L = [] := List.eq_nil_of_length_eq_zero (by omega)
    rw [run_nil]
    simp
  | succ n ih =>
    intro L out R h
    rcases L with _ | ⟨x, t⟩
    · rw [run_nil]
      simp
    · rw [run_cons]
      split
      · exact ih _ _ _ (by simp at h ⊢; omega)
      · exact stp_not1
/-- Whether a run is one at all. -/
def okR (S : List Ln) (I : List ByteArray) (O : List Bool) : Bool := thOk I && scOk S I.length && decide (O.length = I.length)
theorem roomR_ok {S : List Ln} {I : List ByteArray} {O : List Bool} (h : okR S I O = true) : roomR S I O = run I O S ByteArray.empty [] := by
  unfold roomR
  exact if_pos h
theorem roomR_bad {S : List Ln} {I : List ByteArray} {O : List Bool} (h : okR S I O = false) : roomR S I O = (1, ByteArray.empty, []) := by
  unfold roomR
  exact if_neg (by show ¬ okR S I O = true; rw [h]; decide)
theorem okR_iff {S : List Ln} {I : List ByteArray} {O : List Bool} : (roomR S I O).1 ≠ 1 ↔ okR S I O = true := by
  rcases h : okR S I O
  · rw [roomR_bad h]
    simp
  · rw [roomR_ok h]
    simp only [iff_true]
    exact run_not1 S.length S _ _ (Nat.le_refl _)
theorem okR_same {S : List Ln} {I X : List ByteArray} {O B : List Bool} (h : okR S I O = true) (hX : X.length = I.length) (hB : B.length = I.length) (hq : ∀ q ∈ X, q.size ≤ 40) : okR S X B = true := by
  unfold okR at h ⊢
  simp only [Bool.and_eq_true, decide_eq_true_eq] at h ⊢
  refine ⟨⟨?_, ?_⟩, by omega⟩
  · have := thOk_len h.1.1
    unfold thOk
    simp only [Bool.and_eq_true, decide_eq_true_eq, List.all_eq_true]
    exact ⟨by omega, hq⟩
  · rw [hX]
    exact h.1.2
/-- With other texts that are the same where they were read. -/
theorem rooms_same {S : List Ln} {I X : List ByteArray} {O : List Bool} (h1 : (roomR S I O).1 ≠ 1) (hX : X.length = I.length) (hq : ∀ q ∈ X, q.size ≤ 40)
    (hR : ∀ y ∈ (roomR S I O).2.2, X.getD y.toNat ByteArray.empty = I.getD y.toNat ByteArray.empty) : roomR S X O = roomR S I O := by
  have hk := okR_iff.1 h1
  have hO : O.length = I.length := by
    have := hk
    unfold okR at this
    simp only [Bool.and_eq_true, decide_eq_true_eq] at this
    exact this.2
  have hL : ∀ x ∈ S, LOk x (I.length : Int) := fun x hx => by
    have h2 := hk
    unfold okR at h2
    simp only [Bool.and_eq_true] at h2
    obtain ⟨k, hk', rfl⟩ := List.getElem_of_mem hx
    exact scOk_at h2.1.2 (List.getElem?_eq_getElem hk')
  rw [roomR_ok (okR_same hk hX hO hq), roomR_ok hk]
  rw [roomR_ok hk] at hR
  obtain ⟨_, f2⟩ := run_open (I := I) (O := O) (I.length : Int) S.length S ByteArray.empty [] (Nat.le_refl _) hL List.nodup_nil (fun y hy => by cases hy)
  exact run_same S.length S _ _ (Nat.le_refl _) (fun y hy => ⟨hR y hy, (f2 y hy).2.2⟩) (.inr fun _ => rfl)
theorem rooms_in {S : List Ln} {I : List ByteArray} {O : List Bool} (h1 : (roomR S I O).1 ≠ 1) : ∀ y ∈ (roomR S I O).2.2, 0 ≤ y ∧ y < (I.length : Int) := by
  have hk := okR_iff.1 h1
  have hL : ∀ x ∈ S, LOk x (I.length : Int) := fun x hx => by
    have h2 := hk
    unfold okR at h2
    simp only [Bool.and_eq_true] at h2
    obtain ⟨k, hk', rfl⟩ := List.getElem_of_mem hx
    exact scOk_at h2.1.2 (List.getElem?_eq_getElem hk')
  rw [roomR_ok hk]
  obtain ⟨_, f2⟩ := run_open (I := I) (O := O) (I.length : Int) S.length S ByteArray.empty [] (Nat.le_refl _) hL List.nodup_nil (fun y hy => by cases hy)
  exact fun y hy => ⟨(f2 y hy).1, (f2 y hy).2.1⟩
/-- And with nothing else open. -/
theorem rooms_narrow {S : List Ln} {I X : List ByteArray} {O B : List Bool} (h1 : (roomR S I O).1 ≠ 1) (h2 : (roomR S I O).1 ≠ 2) (hX : X.length = I.length) (hB : B.length = I.length) (hq : ∀ q ∈ X, q.size ≤ 40)
    (hR : ∀ y ∈ (roomR S I O).2.2, X.getD y.toNat ByteArray.empty = I.getD y.toNat ByteArray.empty ∧ B.getD y.toNat false = true) : roomR S X B = roomR S I O := by
  have hk := okR_iff.1 h1
  rw [roomR_ok (okR_same hk hX hB hq), roomR_ok hk]
  rw [roomR_ok hk] at hR h2
  exact run_same S.length S _ _ (Nat.le_refl _) hR (.inl h2)
end Rx
end Go.Proofs.Ytcibjicgfhgomaa
