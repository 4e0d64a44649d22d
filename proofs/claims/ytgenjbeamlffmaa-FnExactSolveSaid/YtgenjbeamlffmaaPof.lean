/- A shelf to which one release is put, as plain facts: the release is found at the place at which it was put, and without it the shelf is as before. No condition. -/
import Derived.Test.YtgenjbeamlffmaaGof
import Derived.Test.YtgenjbeamlffmaaPuts
namespace Go.Proofs.Ytgenjbeamlffmaa
open Go.RowKit Go.Sort

namespace Pof
open Copy Gof
theorem put_len (x : Rel) (S : List Rel) : (putL x S).length = S.length + 1 := by
  have := befL_le x S
  unfold putL
  simp
  omega
theorem put_at (x : Rel) (S : List Rel) : (putL x S)[befL x S]? = some x := by
  have h := befL_le x S
  unfold putL
  rw [List.append_assoc, List.getElem?_append_right (by simp; omega)]
  simp [Nat.min_eq_left h]
theorem put_take (x : Rel) (S : List Rel) : (putL x S).take (befL x S) = S.take (befL x S) := by
  have h := befL_le x S
  unfold putL
  rw [List.append_assoc, List.take_append_of_le_length (by simp; omega), List.take_take, Nat.min_self]
theorem put_drop (x : Rel) (S : List Rel) : (putL x S).drop (befL x S + 1) = S.drop (befL x S) := by
  have h := befL_le x S
  have e : (S.take (befL x S) ++ [x]).length = befL x S + 1 := by simp; omega
  unfold putL
  rw [← e, List.drop_left]
theorem find_at (n : Int) (v : Int × Int × Int × Int) : ∀ (S : List Rel) (k i : Nat) (hi : i < S.length), S[i].1 = n → S[i].2.1 = v → ∃ j, ∃ h : j < S.length, shFind n v k S = ((k + j : Nat) : Int) ∧ S[j].1 = n ∧ S[j].2.1 = v
  | [], _, i, hi, _, _ => by simp at hi
  | x :: S, k, i, hi, h1, h2 => by
    unfold shFind
    by_cases e : x.1 = n ∧ x.2.1 = v
    · rw [if_pos e]
      exact ⟨0, by simp, by simp, e.1, e.2⟩
    · rw [if_neg e]
      rcases i with _ | i
      · exact absurd ⟨by simpa using h1, by simpa using h2⟩ e
      · obtain ⟨j, hj, hf, g1, g2⟩ := find_at n v S (k + 1) i (by simpa using hi) (by simpa using h1) (by simpa using h2)
        exact ⟨j + 1, by simpa using hj, by rw [hf]; omega, by simpa using g1, by simpa using g2⟩
/-- What the law asks of a shelf to which a release was put. -/
theorem put_law {x : Rel} {S : List Rel} (h : putOk x S = true) : shOk (putL x S) = true ∧ shAt (putL x S) x.1 x.2.1 = ((befL x S : Nat) : Int) ∧ befL x S < (putL x S).length ∧
    ((putL x S).drop (befL x S)).take 1 = [x] ∧ (putL x S).take (befL x S) ++ (putL x S).drop (befL x S + 1) = S := by
  unfold putOk at h
  rw [Bool.and_eq_true] at h
  have hG := h.2
  have hk := befL_le x S
  have hlt : befL x S < (putL x S).length := by rw [put_len]; omega
  have hx : (putL x S)[befL x S] = x := (List.getElem?_eq_some_iff.1 (put_at x S)).2
  refine ⟨hG, ?_, hlt, ?_, by rw [put_take, put_drop, List.take_append_drop]⟩
  · obtain ⟨j, hj, hf, h1, h2⟩ := find_at x.1 x.2.1 (putL x S) 0 (befL x S) hlt (by rw [hx]) (by rw [hx])
    unfold shAt
    rw [if_pos hG, hf, Nat.zero_add]
    have hS := hG
    unfold shOk at hS
    rw [Bool.and_eq_true] at hS
    have := keys_differ (putL x S) none hS.1 j (befL x S) hj hlt (by unfold key; rw [h1, h2, hx])
    rw [this]
  · rw [List.drop_eq_getElem_cons hlt, hx]
    rfl
end Pof
end Go.Proofs.Ytgenjbeamlffmaa
